/-
  Several texts in one: BStructs, TArg, TLoose, TGet, TApp, TSame, TCat.
-/
import Derived.Test.YtglmmhgmdhdleaaBIs
import Derived.Deep.Slices
import Derived.Test.YtglmmhgmdhdleaaTObjs
import Derived.Test.YtglmmhgmdhdleaaWGet
import Derived.Deep.AppendSrc
import Derived.Lib.AppendZeros
namespace Go.Proofs.Ytglmmhgmdhdleaa
open Go.ChangeShapes Go.WideShapes Go.ChangeAt Go.RowKit Go.Lib
set_option linter.unusedVariables false

/-- Cell j of element i. -/
theorem openedStructs {H : Type} {enc : TypeId × Value → H} {P : Program} {t e : TypeId} {fs : Array Field} (m : Nat) (hm : 0 < m) (ht : P.underlying t = some (.slice e)) (he : P.underlying e = some (.struct fs)) (ce : P.cellsOf e = m) (hfs : ∀ (j : Nat) (f : Field), fs[j]? = some f → f.offset = j ∧ P.cellsOf f.type = 1) (hsz : fs.size = m) {W : World} {a0 : Option Addr} {len cap : Nat} {d0 : DataW H} {p : List MemPlace}
    (h0 : DataW.Trod enc P W 0 (fun _ => true) true t (.slice a0 len cap) d0 p) :
    len ≤ cap ∧ cap ≤ maxLen ∧ ∃ V : Nat → Nat → Value, (0 < len → ∃ b o, a0 = some ⟨b, o, none⟩ ∧ ∀ i j, i < len → j < m → W.cell? ⟨b, o + i * m + j, none⟩ = some (V i j)) ∧
      ∀ (i j : Nat) (f : Field), i < len → fs[j]? = some f → ∃ n y, DataW.trod enc P W 0 (fun _ => true) true n f.type [V i j] = some y := by
  obtain ⟨fuel, hf⟩ := h0
  rcases Go.Deep.open_slice ht hf with ⟨hcs, hx⟩ | ⟨a, len', cap', mm, n, D, Pl, hcs, _, hl, hmx, hmm, hx, hr⟩
  · simp [Value.cells] at hcs
    obtain ⟨rfl, rfl, rfl⟩ := hcs
    exact ⟨Nat.le_refl _, Nat.zero_le _, fun _ _ => .bool false, fun h => absurd h (Nat.lt_irrefl 0), fun i j f hi => absurd hi (Nat.not_lt_zero _)⟩
  · simp [Value.cells] at hcs
    obtain ⟨rfl, rfl, rfl⟩ := hcs
    simp only [if_true] at hmm
    subst hmm
    have each : ∀ i, i < len → ∃ q : List Value, (∀ j, j < m → W.cell? (a.add (i * m + j)) = some (q.getD j (.bool false))) ∧ ∀ (j : Nat) (f : Field), fs[j]? = some f → ∃ n y, DataW.trod enc P W 0 (fun _ => true) true n f.type [q.getD j (.bool false)] = some y := by
      intro i hi
      obtain ⟨cs', h1, h2⟩ := hr i (by omega)
      rw [ce] at h1
      obtain ⟨_, hlen, hcell⟩ := World.cells?_some h1
      obtain ⟨xs, k, hk, hxy, _, hxl, hff⟩ := DataW.trod_struct he h2
      refine ⟨cs', fun j hj => ?_, fun j f hj => ?_⟩
      · have := hcell j hj
        rw [Go.Deep.add_add] at this
        rw [this, List.getElem?_eq_getElem (by omega)]
        simp [List.getD, show j < cs'.length by omega]
      · have hjm : j < m := by have := (Array.getElem?_eq_some_iff.1 hj).1; omega
        have g := hff j f hj
        rw [(hfs j f hj).1, (hfs j f hj).2] at g
        have e1 : (cs'.drop j).take 1 = [cs'.getD j (.bool false)] := by
          rw [List.drop_eq_getElem_cons (by omega), List.take_succ_cons, List.take_zero]
          simp [List.getD, show j < cs'.length by omega]
        rw [e1] at g
        obtain ⟨y, hy⟩ : ∃ y, xs[j]? = some y := ⟨xs[j]'(by omega), List.getElem?_eq_getElem (by omega)⟩
        rw [hy] at g
        exact ⟨k, y, g⟩
    obtain ⟨q, hq⟩ := Go.Deep.choose_lt each
    refine ⟨hl, hmx, fun i j => (q i).getD j (.bool false), fun hlen => ?_, fun i j f hi hj => (hq i hi).2 j f hj⟩
    obtain ⟨b, o, s⟩ := a
    have h00 := (hq 0 hlen).1 0 hm
    obtain rfl : s = none := by simpa [Addr.add] using World.cell?_spot h00
    refine ⟨b, o, rfl, fun i j hi hj => ?_⟩
    have := (hq i hi).1 j hj
    rw [add_plain] at this
    rw [Nat.add_assoc]
    exact this
/-- A slice of bytes with room: where it lies. -/
theorem openedAt {H : Type} {enc : TypeId × Value → H} {P : Program} {t e : TypeId} (ht : P.underlying t = some (.slice e)) (he : P.underlying e = some (.int .u8)) (hc : P.cellsOf e = 1) {W : World} {a0 : Option Addr} {len cap : Nat} {d0 : DataW H} {p : List MemPlace}
    (h0 : DataW.Trod enc P W 0 (fun _ => true) true t (.slice a0 len cap) d0 p) (hcap : 0 < cap) : ∃ b o, a0 = some ⟨b, o, none⟩ := by
  obtain ⟨fuel, hf⟩ := h0
  rcases open_ints ht he hc hf with ⟨hcs, hx⟩ | ⟨a, len', cap', zs, hcs, _, hl, hm, hz, hx, hcell, hwz⟩
  · simp [Value.cells] at hcs
    omega
  · simp [Value.cells] at hcs
    obtain ⟨rfl, rfl, rfl⟩ := hcs
    simp only [if_true] at hz
    obtain ⟨b, o, s⟩ := a
    obtain rfl : s = none := by simpa [Addr.add] using World.cell?_spot (hcell 0 (by omega))
    exact ⟨b, o, rfl⟩
end Go.Proofs.Ytglmmhgmdhdleaa

namespace Go.Proofs.Ytglmmhgmdhdleaa
open Go.RowKit Go.Lib
set_option linter.unusedVariables false

/-- Dots as they came in. -/
def ArgD (w : World) (p : Option Addr) (l : List C.Dt) : Prop := 0 < l.length → ∃ b o, p = some ⟨b, o, none⟩ ∧ ∀ i x, l[i]? = some x → w.cell? ⟨b, o + i * 2, none⟩ = some (.int .i64 x.1) ∧ w.cell? ⟨b, o + i * 2 + 1, none⟩ = some (.int .i64 x.2)
theorem ArgD.below {w w' : World} {p : Option Addr} {l : List C.Dt} (h : ArgD w p l) (hb : Below w.heap.size w w') : ArgD w' p l := fun hl => by
  obtain ⟨b, o, hp, hc⟩ := h hl
  refine ⟨b, o, hp, fun i x hx => ?_⟩
  obtain ⟨h1, h2⟩ := hc i x hx
  exact ⟨(hb.cell (p := ⟨b, o + i * 2, none⟩) (World.block_lt_of_cell? _ _ h1)).trans h1, (hb.cell (p := ⟨b, o + i * 2 + 1, none⟩) (World.block_lt_of_cell? _ _ h2)).trans h2⟩
/-- .. out of what 'openedStructs' hands. -/
theorem argD_of (w : World) (pa : Option Addr) (len : Nat) (V : Nat → Nat → Value) (hV : 0 < len → ∃ b o, pa = some ⟨b, o, none⟩ ∧ ∀ i j, i < len → j < 2 → w.cell? ⟨b, o + i * 2 + j, none⟩ = some (V i j)) (hI : ∀ i j, i < len → j < 2 → ∃ z, V i j = .int .i64 z ∧ (Lit.int .i64 z).wf = true) :
    ∃ l : List C.Dt, len = l.length ∧ ArgD w pa l := by
  refine ⟨(List.range len).map fun i => (intOf (V i 0), intOf (V i 1)), by simp, fun hl => ?_⟩
  simp only [List.length_map, List.length_range] at hl
  obtain ⟨b, o, hp, hc⟩ := hV hl
  refine ⟨b, o, hp, fun i x hx => ?_⟩
  have hi : i < len := by
    have := (List.getElem?_eq_some_iff.1 hx).1
    simpa using this
  simp only [List.getElem?_map, List.getElem?_range hi, Option.map_some, Option.some.injEq] at hx
  subst hx
  constructor
  · obtain ⟨z, hz, _⟩ := hI i 0 hi (by omega)
    have := hc i 0 hi (by omega)
    rw [hz] at this
    simp only [hz]
    exact this
  · obtain ⟨z, hz, _⟩ := hI i 1 hi (by omega)
    have := hc i 1 hi (by omega)
    rw [hz] at this
    simp only [hz]
    exact this
namespace C
def wasB (l : List Dt) (d : Dt) : Bool := may d && l.contains d
theorem was_snoc (l : List Dt) (x d : Dt) : wasB (l ++ [x]) d = (wasB l d || (may x && decide (x = d))) := by
  unfold wasB
  rw [Bool.eq_iff_iff]
  simp only [Bool.and_eq_true, Bool.or_eq_true, List.contains_iff_mem, List.mem_append, List.mem_singleton, decide_eq_true_eq]
  constructor
  · rintro ⟨a, b | rfl⟩
    · exact Or.inl ⟨a, b⟩
    · exact Or.inr ⟨a, rfl⟩
  · rintro (⟨a, b⟩ | ⟨a, rfl⟩)
    · exact ⟨a, Or.inl b⟩
    · exact ⟨a, Or.inr rfl⟩
theorem mem_was (l : List Dt) (d : Dt) : mem (addAll zeroS l) d = wasB l d := by
  rw [Bool.eq_iff_iff, all_mem d l zeroS zero_ok, zero_mem]
  unfold wasB
  simp
theorem lenM {s : Ds} (h : s.Ok) (d : Dt) : lenS (addM s d) = lenS s + if (may d && !mem s d) = true then 1 else 0 := by
  unfold addM
  cases hm : may d with
  | false => simp
  | true =>
    cases hd : mem s d with
    | true => simp [add_there h hm hd]
    | false => simp [add_lenS h hm hd]
theorem take_snoc {l : List Dt} {k : Nat} {x : Dt} (hx : l[k]? = some x) : l.take (k + 1) = l.take k ++ [x] := by
  rw [List.take_add_one, hx]; rfl
end C
end Go.Proofs.Ytglmmhgmdhdleaa

namespace Go.Proofs.Ytglmmhgmdhdleaa
open Go.RowKit Go.Lib
set_option linter.unusedVariables false

/-- A Bool is handed back that tells of Q. -/
def RetB (Q : Prop) (e : Ending) : Prop := ∃ b, e = .returned (.bool b) ∧ (b = true ↔ Q)
/-- Loose beside a clock, each once, in order. -/
def LooseP (c : V7) (l : List C.Dt) : Prop := C.Up l ∧ ∀ d ∈ l, C.Far c d
namespace C
theorem loose_snoc {c : V7} {l : List Dt} {k : Nat} {x : Dt} (hx : l[k]? = some x) (h : LooseP c (l.take k)) (hm : may x = true) (h1 : hasd c x = false) (h2 : nextd c x = false) (h3 : ∀ y, 0 < k → l[k - 1]? = some y → dlt y x = true) : LooseP c (l.take (k + 1)) := by
  have hmx := (may_iff x).1 hm
  have hf : Far c x := by
    refine ⟨hmx.1, hmx.2.1, ?_, hmx.2.2.2⟩
    have e1 : ¬ x.2 ≤ at7 c x.1.toNat := fun h => by rw [(hasd_iff c x).2 ⟨hmx.1, hmx.2.1, hmx.2.2.1, h⟩] at h1; cases h1
    have e2 : ¬ x.2 = at7 c x.1.toNat + 1 := fun h => by rw [(nextd_iff c x).2 h] at h2; cases h2
    omega
  rw [take_snoc hx]
  refine ⟨List.pairwise_append.2 ⟨h.1, List.pairwise_singleton _ _, fun a ha b hb => ?_⟩, fun d hd => ?_⟩
  · obtain rfl : b = x := by simpa using hb
    have hk0 : 0 < k := by
      rcases Nat.eq_zero_or_pos k with h | h
      · subst h; simp at ha
      · exact h
    obtain ⟨hkl, _⟩ := List.getElem?_eq_some_iff.1 hx
    have hy : l[k - 1]? = some l[k - 1] := List.getElem?_eq_getElem (by omega)
    have hyx := h3 _ hk0 hy
    obtain ⟨i, hi, e⟩ := List.getElem_of_mem ha
    rw [List.length_take] at hi
    by_cases hik : i = k - 1
    · subst hik
      rw [List.getElem_take] at e
      rw [← e]; exact hyx
    · have hp := List.pairwise_iff_getElem.1 h.1 i (k - 1) (by rw [List.length_take]; omega) (by rw [List.length_take]; omega) (by omega)
      rw [e, List.getElem_take] at hp
      exact dlt_trans hp hyx
  · rcases List.mem_append.1 hd with hd | hd
    · exact h.2 d hd
    · obtain rfl : d = x := by simpa using hd
      exact hf
theorem far_no {c : V7} {x : Dt} (h : Far c x) : hasd c x = false ∧ nextd c x = false := by
  obtain ⟨a, b, e, f⟩ := h
  constructor
  · rw [Bool.eq_false_iff]; intro k; have := ((hasd_iff c x).1 k).2.2.2; omega
  · rw [Bool.eq_false_iff]; intro k; have := (nextd_iff c x).1 k; omega
end C
set_option maxRecDepth 100000 in
set_option maxHeartbeats 8000000 in
theorem loose_ok (c : V7) (v : Value) (l : List C.Dt) (w : World) (h : OwnD w v l) (hl : l.length ≤ 1000000) (hg : C.good c = true) (hm : ∀ d ∈ l, C.may d = true) :
    Calls Try.prog 40 #[c.v, v] w fun e w' => RetB (LooseP c l) e ∧ Below w.heap.size w w' := by
  obtain ⟨q, cp, hv⟩ := h.len
  subst hv
  obtain ⟨n, hn⟩ : ∃ n, n = l.length := ⟨_, rfl⟩
  have HN : Hid (n = l.length) := hn
  have HO : Hid (OwnD w (.slice q n cp) l) := by show OwnD _ _ _; rw [hn]; exact h
  have HM : Hid (∀ d ∈ l, C.may d = true) := hm
  have HG : Hid (C.good c = true) := hg
  rw [← hn] at hl ⊢
  have HH : Hid (∀ (d1 d2 : Int) W, Calls Try.prog 29 #[c.v, .agg #[.int .i64 d1, .int .i64 d2]] W fun e w' => e = .returned (.bool (C.hasd c (d1, d2))) ∧ Below W.heap.size W w') := fun d1 d2 W => has_at rfl W
  have HI : Hid (∀ (d1 d2 : Int) W, C.may (d1, d2) = true → Calls Try.prog 31 #[c.v, .agg #[.int .i64 d1, .int .i64 d2]] W fun e w' => e = .returned (.bool (C.nextd c (d1, d2))) ∧ Below W.heap.size W w') := fun d1 d2 W hmx => by
    have h1 := (C.may_iff _).1 hmx
    have h2 := C.good_at7 HG.out d1.toNat
    exact isnext_any c d1 d2 _ W h1.1 h1.2.1 (by omega) rfl
  clear h hm hg hn
  obtain ⟨LP, hLP⟩ : ∃ LP : List C.Dt → Prop, LP = LooseP c := ⟨_, rfl⟩
  have HLP : Hid (LP = LooseP c) := hLP
  rw [← hLP]
  clear hLP
  obtain ⟨ch, hch⟩ : ∃ ch, ch = C.hasd c := ⟨_, rfl⟩
  obtain ⟨cn, hcn⟩ : ∃ cn, cn = C.nextd c := ⟨_, rfl⟩
  have HCH : Hid (ch = C.hasd c) := hch
  have HCN : Hid (cn = C.nextd c) := hcn
  rw [← hch] at HH
  rw [← hcn] at HI
  clear hch hcn
  have HQ0 : Hid ((w.alloc (.cells #[.int .i64 c.x0, .int .i64 c.x1, .int .i64 c.x2, .int .i64 c.x3, .int .i64 c.x4, .int .i64 c.x5, .int .i64 c.x6] 43)).heap[w.heap.size]? = some (.cells #[.int .i64 c.x0, .int .i64 c.x1, .int .i64 c.x2, .int .i64 c.x3, .int .i64 c.x4, .int .i64 c.x5, .int .i64 c.x6] 43)) := heap_alloc_new _ _
  have HB0 : Hid (Below w.heap.size w (w.alloc (.cells #[.int .i64 c.x0, .int .i64 c.x1, .int .i64 c.x2, .int .i64 c.x3, .int .i64 c.x4, .int .i64 c.x5, .int .i64 c.x6] 43))) := below_new _ _
  obtain ⟨x0, x1, x2, x3, x4, x5, x6⟩ := c
  simp only [V7.v] at HH HI
  simp only at HQ0 HB0
  simp only [V7.v]
  go_enter Try.func40, Try.ntmps40
  go_wp2_with fail
  generalize w.alloc (.cells #[.int .i64 x0, .int .i64 x1, .int .i64 x2, .int .i64 x3, .int .i64 x4, .int .i64 x5, .int .i64 x6] 43) = W0 at *
  go_loopw [9] (fun s9 wr => ∃ (k : Nat), s9 = .int .i64 k ∧ k ≤ n ∧ Hid (LP (l.take k)) ∧ Hid (Below W0.heap.size W0 wr)) (fun s9 _ => n - (intOf s9).toNat)
  case atStart => exact ⟨0, rfl, Nat.zero_le _, by show LP _; rw [HLP.out]; exact ⟨C.Up.nil, fun d hd => (by cases hd)⟩, Below.refl _ _⟩
  case round =>
    obtain ⟨k, rfl, hkn, HK, HB⟩ := hrel
    by_cases hlt : k < n
    · obtain ⟨x, hx⟩ : ∃ x, l[k]? = some x := ⟨_, List.getElem?_eq_getElem (by have := HN.out; omega)⟩
      have hmx := HM.out x (List.mem_of_getElem? hx)
      have hrow := (HO.out.below HB0.out).below HB.out
      obtain ⟨gb, cap, hvs⟩ := OwnD.at hrow (by have := HN.out; omega)
      rw [← HN.out] at hvs
      cases hvs
      obtain ⟨a0, a1⟩ := OwnD.cell hrow k x hx
      have HX : Hid (l[k]? = some x) := hx
      have HMX : Hid (C.may x = true) := hmx
      have HROW : Hid (OwnD wr (.slice (some ⟨gb, 0, none⟩) n cp) l) := hrow
      clear hx hmx hrow
      obtain ⟨bh, hbh⟩ : ∃ bh, ch x = bh := ⟨_, rfl⟩
      obtain ⟨bn, hbn⟩ : ∃ bn, cn x = bn := ⟨_, rfl⟩
      have HBH : Hid (ch x = bh) := hbh
      have HBN : Hid (cn x = bn) := hbn
      obtain ⟨d1, d2⟩ := x
      simp only at a0 a1
      have HH1 : Hid (∀ W, Calls Try.prog 29 #[.agg #[.int .i64 x0, .int .i64 x1, .int .i64 x2, .int .i64 x3, .int .i64 x4, .int .i64 x5, .int .i64 x6], .agg #[.int .i64 d1, .int .i64 d2]] W fun e w' => e = .returned (.bool bh) ∧ Below W.heap.size W w') := fun W => by rw [← hbh]; exact HH.out d1 d2 W
      have HI1 : Hid (∀ W, Calls Try.prog 31 #[.agg #[.int .i64 x0, .int .i64 x1, .int .i64 x2, .int .i64 x3, .int .i64 x4, .int .i64 x5, .int .i64 x6], .agg #[.int .i64 d1, .int .i64 d2]] W fun e w' => e = .returned (.bool bn) ∧ Below W.heap.size W w') := fun W => by rw [← hbn]; exact HI.out d1 d2 W HMX.out
      clear hbh hbn
      obtain ⟨W1, hW1⟩ : ∃ W1, W1 = wr.alloc (.cells #[.int .i64 d1, .int .i64 d2] 29) := ⟨_, rfl⟩
      have HB1 : Hid (Below wr.heap.size wr W1) := by show Below _ _ _; rw [hW1]; exact below_new _ _
      have HD1 : Hid (W1.heap[wr.heap.size]? = some (.cells #[.int .i64 d1, .int .i64 d2] 29)) := by show _ = _; rw [hW1]; exact heap_alloc_new _ _
      have HQ1 : Hid _ := keep_on (bt HB.out HB1.out) HQ0.out
      obtain ⟨b0, b1, b2, b3, b4, b5, b6⟩ := box7 HQ1.out
      obtain ⟨z0, z1⟩ := box2 HD1.out
      rw [hW1] at b0 b1 b2 b3 b4 b5 b6 z0 z1
      go_wp2_with fail
      rw [← hW1]
      clear a0 a1
      refine (HH1.out _).mono ?_
      rintro e w2 ⟨rfl, hb2⟩
      have HB2 : Hid (Below wr.heap.size wr w2) := bt HB1.out hb2
      have HD2 : Hid (w2.heap[wr.heap.size]? = some (.cells #[.int .i64 d1, .int .i64 d2] 29)) := keep_on hb2 HD1.out
      clear hb2 b0 b1 b2 b3 b4 b5 b6 z0 z1 HB1 HD1 HQ1 hW1
      cases bh with
      | true =>
        go_wp2
        go_ret
        refine ⟨⟨false, rfl, ?_⟩, bt HB0.out (bt HB.out HB2.out)⟩
        rw [HLP.out]
        exact ⟨fun k => (by cases k), fun k => by have h1 := (C.far_no (k.2 _ (List.mem_of_getElem? HX.out))).1; rw [← HCH.out, HBH.out] at h1; cases h1⟩
      | false =>
        obtain ⟨b0, b1, b2, b3, b4, b5, b6⟩ := box7 (keep_on (bt HB.out HB2.out) HQ0.out)
        obtain ⟨z0, z1⟩ := box2 HD2.out
        go_wp2_with fail
        refine (HI1.out _).mono ?_
        rintro e w3 ⟨rfl, hb3⟩
        have HB3 : Hid (Below wr.heap.size wr w3) := bt HB2.out hb3
        have HD3 : Hid (w3.heap[wr.heap.size]? = some (.cells #[.int .i64 d1, .int .i64 d2] 29)) := keep_on hb3 HD2.out
        clear hb3 b0 b1 b2 b3 b4 b5 b6 z0 z1 HB2 HD2
        cases bn with
        | true =>
          go_wp2
          go_ret
          refine ⟨⟨false, rfl, ?_⟩, bt HB0.out (bt HB.out HB3.out)⟩
          rw [HLP.out]
          exact ⟨fun k => (by cases k), fun k => by have h1 := (C.far_no (k.2 _ (List.mem_of_getElem? HX.out))).2; rw [← HCN.out, HBN.out] at h1; cases h1⟩
        | false =>
          have hne : Nonempty (NewW w3) := ⟨NewW.start w3⟩
          obtain ⟨z0, z1⟩ := box2_all HD3.out
          rcases Nat.eq_zero_or_pos k with hk0 | hk0
          · subst hk0
            go_wp2_with fail
            refine wp_region_new (by kernel_rfl) (by kernel_rfl) ?_
            repeat (go_big_quiet_step (fail))
            refine wpQuiet_nil ?_
            rintro _ ⟨w4, rfl⟩
            go_wp2
            go_roundw
            case rel =>
              refine ⟨0 + 1, by go_num, by omega, ?_, bt HB.out (bt HB3.out w4.h)⟩
              show LP _
              rw [HLP.out]
              exact C.loose_snoc HX.out (by rw [← HLP.out]; exact HK.out) HMX.out (by rw [← HCH.out]; exact HBH.out) (by rw [← HCN.out]; exact HBN.out) fun y h => absurd h (Nat.lt_irrefl _)
            case measure => simp [intOf]; omega
          · obtain ⟨j, rfl⟩ : ∃ j, k = j + 1 := ⟨k - 1, by omega⟩
            obtain ⟨y, hy⟩ : ∃ y, l[j]? = some y := ⟨_, List.getElem?_eq_getElem (by have := HN.out; omega)⟩
            have u0 : ∀ m : NewW w3, m.v.cell? ⟨gb, j * 2, none⟩ = some (.int .i64 y.1) := fun m => ((HROW.out.below (bt HB3.out m.h)).cell j y hy).1
            have u1 : ∀ m : NewW w3, m.v.cell? ⟨gb, j * 2 + 1, none⟩ = some (.int .i64 y.2) := fun m => ((HROW.out.below (bt HB3.out m.h)).cell j y hy).2
            have HY : Hid (l[j + 1 - 1]? = some y) := hy
            clear hy
            obtain ⟨z, hz⟩ : ∃ z, C.cmpD y (d1, d2) = z := ⟨_, rfl⟩
            have HZ : Hid (z < 0 ↔ C.dlt y (d1, d2) = true) := by show _ ↔ _; rw [← hz]; exact C.cmpD_lt _ _
            obtain ⟨y1, y2⟩ := y
            simp only at u0 u1
            have HC : Hid (∀ W', Calls Try.prog 50 #[.agg #[.int .i64 y1, .int .i64 y2], .agg #[.int .i64 d1, .int .i64 d2]] W' fun e w' => e = .returned (.int .i64 z) ∧ Below W'.heap.size W' w') := fun W' => compare_new _ _ _ _ _ _ _ W' rfl rfl rfl rfl hz
            clear hz
            go_wp2_with fail
            refine wp_region_new (by kernel_rfl) (by kernel_rfl) ?_
            repeat (go_big_quiet_step ((first | (exact new_of (HC.out _)))))
            refine wpQuiet_nil ?_
            rintro _ ⟨w4, rfl⟩
            by_cases hzl : z < 0
            · go_wp2
              go_roundw
              case rel =>
                refine ⟨j + 1 + 1, by go_num, by omega, ?_, bt HB.out (bt HB3.out w4.h)⟩
                show LP _
                rw [HLP.out]
                exact C.loose_snoc HX.out (by rw [← HLP.out]; exact HK.out) HMX.out (by rw [← HCH.out]; exact HBH.out) (by rw [← HCN.out]; exact HBN.out) fun y' _ hy' => by rw [HY.out] at hy'; cases hy'; exact HZ.out.1 hzl
              case measure => simp [intOf]; omega
            · go_wp2
              go_ret
              refine ⟨⟨false, rfl, ?_⟩, bt HB0.out (bt HB.out (bt HB3.out w4.h))⟩
              rw [HLP.out]
              refine ⟨fun k => (by cases k), fun k => absurd (HZ.out.2 ?_) (by omega)⟩
              have h1 := List.getElem?_eq_some_iff.1 HY.out
              have h2 := List.getElem?_eq_some_iff.1 HX.out
              have h3 := List.pairwise_iff_getElem.1 k.1 (j + 1 - 1) (j + 1) h1.1 h2.1 (by omega)
              rw [h1.2, h2.2] at h3
              exact h3
    · obtain rfl : k = n := by omega
      go_wp2
      go_ret
      refine ⟨⟨true, rfl, ?_⟩, bt HB0.out HB.out⟩
      have h := HK.out
      rw [List.take_of_length_le (by have := HN.out; omega)] at h
      exact ⟨fun _ => h, fun _ => rfl⟩
end Go.Proofs.Ytglmmhgmdhdleaa

namespace Go.Proofs.Ytglmmhgmdhdleaa
open Go.RowKit Go.Lib
set_option linter.unusedVariables false

namespace C
/-- Dots read one behind the other. -/
def rowR : Nat → Option (List UInt8) → List Dt × Option (List UInt8)
  | 0, s => ([], s)
  | k + 1, s =>
    let a := rnum s 0 6
    let b := rnum a.2 1 1099511627776
    let t := rowR k b.2
    ((a.1, b.1) :: t.1, t.2)
theorem rnum_in {s : Option (List UInt8)} {a b v : Int} {r : List UInt8} (h : rnum s a b = (v, some r)) : a ≤ v ∧ v ≤ b := by
  rw [rnum_all] at h
  split at h
  · cases h
  · rename_i hh
    cases h
    omega
theorem rnum_none (a b : Int) : rnum none a b = (0, none) := rfl
theorem rowR_none : ∀ k, (rowR k none).2 = none
  | 0 => rfl
  | k + 1 => by unfold rowR; exact rowR_none k
theorem rowR_may : ∀ (k : Nat) (s : Option (List UInt8)) (r : List UInt8), (rowR k s).2 = some r → ∀ d ∈ (rowR k s).1, may d = true
  | 0, s, r, _, d, hd => by simp [rowR] at hd
  | k + 1, s, r, h, d, hd => by
    unfold rowR at h hd
    simp only [List.mem_cons] at h hd
    have hb : ∃ q, (rnum (rnum s 0 6).2 1 1099511627776).2 = some q := by
      cases hq : (rnum (rnum s 0 6).2 1 1099511627776).2 with
      | none => rw [hq, rowR_none] at h; cases h
      | some q => exact ⟨q, rfl⟩
    obtain ⟨q, hq⟩ := hb
    have ha : ∃ p, (rnum s 0 6).2 = some p := by
      cases hp : (rnum s 0 6).2 with
      | none => rw [hp, rnum_none] at hq; cases hq
      | some p => exact ⟨p, rfl⟩
    obtain ⟨p, hp⟩ := ha
    rcases hd with rfl | hd
    · have h1 := rnum_in (show rnum s 0 6 = ((rnum s 0 6).1, some p) by rw [← hp])
      have h2 := rnum_in (show rnum (rnum s 0 6).2 1 1099511627776 = ((rnum (rnum s 0 6).2 1 1099511627776).1, some q) by rw [← hq])
      exact (may_iff _).2 ⟨h1.1, by simp only; omega, h2.1, h2.2⟩
    · exact rowR_may k _ r h d hd
theorem rowR_len : ∀ (k : Nat) (s : Option (List UInt8)), (rowR k s).1.length = k
  | 0, _ => rfl
  | k + 1, s => by unfold rowR; simp [rowR_len k]
theorem getV_good {s : Option (List UInt8)} {c : V7} {r : Option (List UInt8)} (h : getV s = (c, r)) : good c = true := by
  unfold getV at h
  cases hg : (getN s 1099511627776).2 with
  | none => rw [hg] at h; cases h; decide
  | some l =>
    rw [hg] at h
    cases h
    have key : ∀ {s : Option (List UInt8)} {l}, (rnum s 0 1099511627776).2 = some l → (0 ≤ (rnum s 0 1099511627776).1 ∧ (rnum s 0 1099511627776).1 ≤ 1099511627776) := fun {s l} h => rnum_in (show rnum s 0 1099511627776 = ((rnum s 0 1099511627776).1, some l) by rw [← h])
    have back : ∀ {s : Option (List UInt8)} {l}, (rnum s 0 1099511627776).2 = some l → ∃ q, s = some q := fun {s l} h => by
      cases s with
      | none => rw [rnum_none] at h; cases h
      | some q => exact ⟨q, rfl⟩
    simp only [getN] at hg
    have k6 := key hg
    obtain ⟨q6, e6⟩ := back hg
    have k5 := key e6
    obtain ⟨q5, e5⟩ := back e6
    have k4 := key e5
    obtain ⟨q4, e4⟩ := back e5
    have k3 := key e4
    obtain ⟨q3, e3⟩ := back e4
    have k2 := key e3
    obtain ⟨q2, e2⟩ := back e3
    have k1 := key e2
    obtain ⟨q1, e1⟩ := back e2
    have k0 := key e1
    rw [good_iff]
    simp only [getN]
    exact ⟨k0, k1, k2, k3, k4, k5, k6⟩
end C
end Go.Proofs.Ytglmmhgmdhdleaa

namespace Go.Proofs.Ytglmmhgmdhdleaa
open Go.RowKit Go.Lib
set_option linter.unusedVariables false

theorem nb_cells {w : World} {b : Nat} {X : List Value} {t : TypeId} {m : Nat × Nat} (h : w.heap[b]? = some (.cells X.toArray t m)) (hx : ∀ u ∈ X, ∀ x, u ≠ .int .u8 x) : NB w b := fun o x e => by
  rw [box_cells h o, List.getElem?_toArray] at e
  exact hx _ (List.mem_of_getElem? e) x rfl
theorem rowD_nb (l : List C.Dt) : ∀ u ∈ rowD l, ∀ x, u ≠ .int .u8 x := fun u hu x e => by
  obtain ⟨y, _, hy⟩ := List.mem_flatMap.1 hu
  simp only [encD, List.mem_cons, List.not_mem_nil, or_false] at hy
  rcases hy with rfl | rfl <;> cases e
/-- A row of dots, beside no bytes. -/
def OwnN (w : World) (v : Value) (l : List C.Dt) : Prop := OwnD w v l ∧ ∀ b, v.ownBlock = some b → NB w b
theorem OwnN.nil (w : World) : OwnN w (.slice none 0 0) [] := ⟨OwnD.nil w, fun b hb => by cases hb⟩
theorem OwnN.same {w w' : World} {v : Value} {l : List C.Dt} (h : OwnN w v l) (hb : ∀ b, v.ownBlock = some b → w'.heap[b]? = w.heap[b]?) : OwnN w' v l :=
  ⟨h.1.same hb, fun b hv o x e => h.2 b hv o x (by
    have := hb b hv
    simp only [World.cell?, this] at e
    simp only [World.cell?]; exact e)⟩
theorem run_append_one (v : Value) (l : List C.Dt) (d1 d2 : Int) (vb : Nat) (w : World) (h : OwnN w v l) (hvb : w.heap[vb]? = some (.cells #[.int .i64 d1, .int .i64 d2] 29)) (hl : l.length ≤ 1000000) (ty : TypeId) :
    ∃ v' w', (Builtin.append_ #[37, 37] ty #[v, .slice (some ⟨vb, 0, none⟩) 1 1]).run Try.prog w = .ok v' w' ∧ OwnN w' v' (l ++ [(d1, d2)]) ∧ w.grownBy w' v.ownBlock ∧ (v'.ownBlock = v.ownBlock ∨ v'.ownBlock = some w.heap.size) := by
  obtain ⟨i0, hi0, hz0, hz1, hz2⟩ := info_parts info_dot
  have hs2 := two_src (c := 1) hvb
  have hsrc : Src Try.prog i0.size 37 (.slice (some ⟨vb, 0, none⟩) 1 1) 1 (rowD [(d1, d2)]) w := by
    rw [hz1]
    obtain ⟨p, c, hv, hlen, _, hc⟩ := hs2
    cases hv
    exact Src.ofSlice w u_dots ⟨vb, 0, none⟩ 1 1 _ hlen (hc _ rfl) two_mem
  have grow : ∀ (base : Option Addr) (cap : Nat), (Builtin.firstCells i0.size l.length (.slice base l.length cap)).run Try.prog w.drew = .ok (rowD l).toArray w.drew → l.length ≤ cap → cap < l.length + 1 →
      ∃ v' w', (Builtin.append_ #[37, 37] ty #[.slice base l.length cap, .slice (some ⟨vb, 0, none⟩) 1 1]).run Try.prog w = .ok v' w' ∧ OwnN w' v' (l ++ [(d1, d2)]) ∧ Below w.heap.size w w' ∧ v'.ownBlock = some w.heap.size := by
    intro base cap hold hlc hc
    have hr := run_append_grow_src w 37 37 ty 29 i0 _ u_dots hi0 hz0 base l.length cap (rowD l) hold _ 1 (rowD [(d1, d2)]) hsrc hc (by omega) (by rw [hz2]; exact growslice_fits hc (by omega))
    have hG0 := grownCap_ge w (l.length + 1) cap 29
    have hGm : grownCap w (l.length + 1) cap 29 ≤ maxLen := grownCap_le_maxLen w _ _ _ (by unfold maxLen; omega)
    generalize grownCap w (l.length + 1) cap 29 = G at *
    obtain ⟨X, hX⟩ : ∃ X : List Value, X = rowD (l ++ [(d1, d2)]) ++ rowD (List.replicate (G - (l.length + 1)) ((0, 0) : C.Dt)) := ⟨_, rfl⟩
    have eX : ((rowD l ++ rowD [(d1, d2)]).toArray ++ Builtin.zeroCells (Value.agg #[.int .i64 0, .int .i64 0]).cells (G - (l.length + 1))) = X.toArray := by
      rw [hX, ← zero_dots, rowD_append]; simp
    rw [eX] at hr
    have hq : (w.drew.alloc (.cells X.toArray 29)).heap[w.heap.size]? = some (.cells X.toArray 29) := heap_alloc_new w.drew _
    have lX : (rowD (l ++ [(d1, d2)])).length = (l.length + 1) * 2 := by rw [rowD_length]; simp
    refine ⟨_, _, hr, ⟨?_, fun b hb => ?_⟩, (Below.refl _ w).drew.alloc (by simp) _, rfl⟩
    · have e : (l ++ [(d1, d2)]).length = l.length + 1 := by simp
      have := OwnD.make (l := l ++ [(d1, d2)]) (cap := G) hq (by rw [e]; exact hG0) hGm (by rw [hX, List.length_append, lX, rowD_length, List.length_replicate]; omega) (by rw [e, hX, List.take_append_of_le_length (by omega), List.take_of_length_le (by omega)])
      rw [e] at this
      exact this
    · cases hb
      exact nb_cells hq fun u hu x => by
        rw [hX] at hu
        rcases List.mem_append.1 hu with hu | hu
        · exact rowD_nb _ u hu x
        · exact rowD_nb _ u hu x
  rcases h.1.shape with ⟨rfl, rfl⟩ | ⟨g, cap, cur, rfl, hg, hn, hm, hs, ht⟩
  · obtain ⟨v', w', h1, h2, h3, h4⟩ := grow none 0 (run_firstCells_none w.drew _ 0 0 0) (Nat.le_refl _) (by simp)
    exact ⟨v', w', h1, h2, bel_grow h3 _, Or.inr h4⟩
  · by_cases hroom : l.length + 1 ≤ cap
    · have l2 : (rowD [(d1, d2)]).length = 2 := rfl
      have hr := run_room_k u_dots size_dot ty hg (n := l.length) (cap := cap) (two_src (c := 1) hvb) two_mem hroom (by omega)
      obtain ⟨X, hX⟩ : ∃ X, X = over cur (l.length * 2) (rowD [(d1, d2)]) := ⟨_, rfl⟩
      rw [← hX] at hr
      have hq : (w.setRow g X.toArray).heap[g]? = some (.cells X.toArray 29) := set_over hg
      refine ⟨_, _, hr, ⟨?_, fun b hb => ?_⟩, row_grown w g _, Or.inl rfl⟩
      · have e : (l ++ [(d1, d2)]).length = l.length + 1 := by simp
        have := OwnD.make (l := l ++ [(d1, d2)]) (cap := cap) hq (by rw [e]; exact hroom) hm (by rw [hX, over_length _ _ _ (by omega)]; exact hs) (by
          have lt : (cur.take (l.length * 2)).length = l.length * 2 := by rw [List.length_take]; omega
          rw [e, hX, over, ht, List.take_append_of_le_length (by rw [List.length_append, rowD_length]; omega), List.take_of_length_le (by rw [List.length_append, rowD_length]; omega), rowD_append])
        rw [e] at this
        exact this
      · cases hb
        refine nb_cells hq fun u hu x e => ?_
        rw [hX, over] at hu
        have hcur : ∀ u ∈ cur, ∀ x, u ≠ .int .u8 x := fun u hu x e => by
          obtain ⟨o, ho, eo⟩ := List.getElem_of_mem hu
          refine h.2 g rfl o x ?_
          rw [box_cells hg o, List.getElem?_toArray, List.getElem?_eq_getElem ho, eo, e]
        rcases List.mem_append.1 hu with hu | hu
        · rcases List.mem_append.1 hu with hu | hu
          · exact hcur u (List.mem_of_mem_take hu) x e
          · exact rowD_nb _ u hu x e
        · exact hcur u (List.mem_of_mem_drop hu) x e
    · obtain ⟨v', w', h1, h2, h3, h4⟩ := grow (some ⟨g, 0, none⟩) cap (by
        rw [hz1]
        refine run_load_src (P := Try.prog) (w := w.drew) (m := l.length) (news := rowD l) (seg_src (w := w.drew) (cur := cur) hg _ (rowD_length l) fun k u hk => ?_) l.length _ ?_ (Nat.le_refl _)
        · have hkl := (List.getElem?_eq_some_iff.1 hk).1
          rw [rowD_length] at hkl
          rw [Nat.zero_add, ← hk, ← ht, List.getElem?_take, if_pos hkl]
        · exact (List.take_of_length_le (by rw [rowD_length]; omega)).symm) hn (by omega)
      exact ⟨v', w', h1, h2, bel_grow h3 _, Or.inr h4⟩
theorem wpList_append_one {w : World} {ops : Array Oper} {rest : List Oper} {o : Oper} {a : Act} {Q : Exit → Act → World → Prop} (hgd : o.guard = none) (s y : Operand) (ho : o.op = .call { callee := .builtin .append, args := #[s, y], argTypes := #[37, 37] })
    {v : Value} {l : List C.Dt} {d1 d2 : Int} {vb : Nat} (hs : a.eval s = v) (hy : a.eval y = .slice (some ⟨vb, 0, none⟩) 1 1) (hown : OwnN w v l) (hvb : w.heap[vb]? = some (.cells #[.int .i64 d1, .int .i64 d2] 29)) (hl : l.length ≤ 1000000)
    (h : ∀ v' w', OwnN w' v' (l ++ [(d1, d2)]) → w.grownBy w' v.ownBlock → (v'.ownBlock = v.ownBlock ∨ v'.ownBlock = some w.heap.size) → wpList Try.prog ops Q rest (a.put o.dst v') w') : wpList Try.prog ops Q (o :: rest) a w := by
  refine wpList_plain hgd fun K hK => ?_
  obtain ⟨v', w', hr, h2, h3, h4⟩ := run_append_one v l d1 d2 vb w hown hvb hl o.type
  unfold Oper.wp execOp
  simp only [ho, resolve, invoke, builtin, Sem.run_bind, Sem.run_pure, Result.andThen_ok, List.map_toArray, List.map_cons, List.map_nil, hs, hy, hr]
  exact hK _ _ (h v' w' h2 h3 h4)
end Go.Proofs.Ytglmmhgmdhdleaa

namespace Go.Proofs.Ytglmmhgmdhdleaa
open Go.RowKit Go.Lib
set_option linter.unusedVariables false

def eqL (a b : List C.Dt) : Bool := decide (a = b)
set_option maxRecDepth 100000 in
set_option maxHeartbeats 4000000 in
theorem equalD_any (v1 v2 : Value) (l1 l2 : List C.Dt) (w : World) (h1 : OwnD w v1 l1) (h2 : OwnD w v2 l2) (hl : l1.length ≤ 1000000) :
    Calls Try.prog 41 #[v1, v2] w fun e w' => e = .returned (.bool (eqL l1 l2)) ∧ Below w.heap.size w w' := by
  obtain ⟨q1, c1, hv1⟩ := h1.len
  obtain ⟨q2, c2, hv2⟩ := h2.len
  subst hv1 hv2
  have H1 : Hid (OwnD w (.slice q1 l1.length c1) l1) := h1
  have H2 : Hid (OwnD w (.slice q2 l2.length c2) l2) := h2
  clear h1 h2
  by_cases hlen : l1.length = l2.length
  · obtain ⟨n, hn⟩ : ∃ n, n = l1.length := ⟨_, rfl⟩
    have HN : Hid (n = l1.length) := hn
    have HN2 : Hid (n = l2.length) := by show n = _; omega
    obtain ⟨r, hr⟩ : ∃ r, r = eqL l1 l2 := ⟨_, rfl⟩
    have HR : Hid (r = eqL l1 l2) := hr
    rw [← hlen, ← hn, ← hr]
    rw [← hn] at hl
    clear hlen hn hr
    go_enter Try.func41, Try.ntmps41
    go_wp2_with fail
    go_loopw [13] (fun s13 wr => ∃ k : Nat, s13 = .int .i64 k ∧ k ≤ n ∧ Hid (l1.take k = l2.take k) ∧ Hid (Below w.heap.size w wr)) (fun s13 _ => n - (intOf s13).toNat)
    case atStart => exact ⟨0, rfl, Nat.zero_le _, rfl, Below.refl _ _⟩
    case round =>
      obtain ⟨k, rfl, hkn, HK, HB⟩ := hrel
      by_cases hlt : k < n
      · obtain ⟨x, hx⟩ : ∃ x, l1[k]? = some x := ⟨_, List.getElem?_eq_getElem (by have := HN.out; omega)⟩
        obtain ⟨y, hy⟩ : ∃ y, l2[k]? = some y := ⟨_, List.getElem?_eq_getElem (by have := HN2.out; omega)⟩
        obtain ⟨g1, cc1, e1⟩ := OwnD.at H1.out (by have := HN.out; omega)
        obtain ⟨g2, cc2, e2⟩ := OwnD.at H2.out (by have := HN2.out; omega)
        cases e1
        cases e2
        have hne : Nonempty (NewW wr) := ⟨NewW.start wr⟩
        have a0 : ∀ m : NewW wr, m.v.cell? ⟨g1, k * 2, none⟩ = some (.int .i64 x.1) := fun m => (OwnD.cell (OwnD.below H1.out (bt HB.out m.h)) k x hx).1
        have a1 : ∀ m : NewW wr, m.v.cell? ⟨g1, k * 2 + 1, none⟩ = some (.int .i64 x.2) := fun m => (OwnD.cell (OwnD.below H1.out (bt HB.out m.h)) k x hx).2
        have b0 : ∀ m : NewW wr, m.v.cell? ⟨g2, k * 2, none⟩ = some (.int .i64 y.1) := fun m => (OwnD.cell (OwnD.below H2.out (bt HB.out m.h)) k y hy).1
        have b1 : ∀ m : NewW wr, m.v.cell? ⟨g2, k * 2 + 1, none⟩ = some (.int .i64 y.2) := fun m => (OwnD.cell (OwnD.below H2.out (bt HB.out m.h)) k y hy).2
        obtain ⟨qb, hqb⟩ : ∃ qb, qb = (x.1 == y.1 && x.2 == y.2) := ⟨_, rfl⟩
        have kq : ∀ W, (Op.equalIn 10000 29 (.agg #[.int .i64 x.1, .int .i64 x.2]) (.agg #[.int .i64 y.1, .int .i64 y.2])).run Try.prog W = .ok qb W := fun W => by rw [hqb]; exact eq2_dot x.1 x.2 y.1 y.2 W
        have HQ : Hid (qb = true ↔ x = y) := by
          show _ ↔ _
          rw [hqb]; simp [Prod.ext_iff]
        have HX : Hid (l1[k]? = some x) := hx
        have HY : Hid (l2[k]? = some y) := hy
        clear hqb hx hy
        cases qb with
        | true =>
          go_wp2_with fail
          refine wp_region_new (by kernel_rfl) (by kernel_rfl) ?_
          repeat (go_big_quiet_step (fail))
          refine wpQuiet_nil ?_
          rintro _ ⟨w2, rfl⟩
          go_wp2
          go_roundw
          case rel =>
            refine ⟨k + 1, by go_num, by omega, ?_, bt HB.out w2.h⟩
            show _ = _
            rw [List.take_add_one, List.take_add_one, HX.out, HY.out, HK.out, HQ.out.1 (by trivial)]
          case measure => simp [intOf]; omega
        | false =>
          go_wp2_with fail
          refine wp_region_new (by kernel_rfl) (by kernel_rfl) ?_
          repeat (go_big_quiet_step (fail))
          refine wpQuiet_nil ?_
          rintro _ ⟨w2, rfl⟩
          go_wp2
          go_ret
          refine ⟨?_, bt HB.out w2.h⟩
          have : r = false := by
            rw [HR.out]
            refine decide_eq_false fun e => ?_
            have h1 := HX.out
            rw [e, HY.out] at h1
            simp only [Option.some.injEq] at h1
            have := HQ.out.2 h1.symm
            cases this
          rw [this]; rfl
      · obtain rfl : k = n := by omega
        go_wp2
        go_ret
        refine ⟨?_, HB.out⟩
        have : r = true := by
          rw [HR.out]
          refine decide_eq_true ?_
          have h := HK.out
          rw [List.take_of_length_le (by have := HN.out; omega), List.take_of_length_le (by have := HN2.out; omega)] at h
          exact h
        rw [this]; rfl
  · have e : eqL l1 l2 = false := decide_eq_false fun e => hlen (by rw [e])
    rw [e]
    clear e H1 H2
    generalize l1.length = n1 at *
    generalize l2.length = n2 at *
    have hn : ¬ ((n1 : Int) = (n2 : Int)) := by omega
    go_enter Try.func41, Try.ntmps41
    go_wp2
    go_ret
    exact ⟨rfl, Below.refl _ _⟩
def sameS (a b : C.Ds) : Bool := C.same a.c b.c && eqL a.l b.l
theorem sameS_iff (a b : C.Ds) : sameS a b = true ↔ a = b := by
  unfold sameS eqL
  rw [Bool.and_eq_true, C.same_iff, decide_eq_true_eq]
  cases a; cases b; simp
set_option maxRecDepth 100000 in
set_option maxHeartbeats 4000000 in
theorem same_any (w : World) (g1 g2 : Nat) (s1 s2 : C.Ds) (v1 v2 : Value) (r : Bool) (h1 : DotsAt w g1 s1.c v1 s1.l) (h2 : DotsAt w g2 s2.c v2 s2.l) (hl : s1.l.length ≤ 1000000) (hr : sameS s1 s2 = r) :
    Calls Try.prog 14 #[.pointer (some ⟨g1, 0, none⟩), .pointer (some ⟨g2, 0, none⟩)] w fun e w' => e = .returned (.bool r) ∧ Below w.heap.size w w' := by
  obtain ⟨⟨x0, x1, x2, x3, x4, x5, x6⟩, l1⟩ := s1
  obtain ⟨⟨y0, y1, y2, y3, y4, y5, y6⟩, l2⟩ := s2
  simp only at h1 h2 hl
  obtain ⟨qc, hqc⟩ : ∃ qc, qc = C.same ⟨x0, x1, x2, x3, x4, x5, x6⟩ ⟨y0, y1, y2, y3, y4, y5, y6⟩ := ⟨_, rfl⟩
  obtain ⟨ql, hql⟩ : ∃ ql, ql = eqL l1 l2 := ⟨_, rfl⟩
  have HR : Hid (r = (qc && ql)) := by show r = _; rw [← hr, hqc, hql]; rfl
  have kq : ∀ W, (Op.equalIn 10000 43 (.agg #[.int .i64 x0, .int .i64 x1, .int .i64 x2, .int .i64 x3, .int .i64 x4, .int .i64 x5, .int .i64 x6]) (.agg #[.int .i64 y0, .int .i64 y1, .int .i64 y2, .int .i64 y3, .int .i64 y4, .int .i64 y5, .int .i64 y6])).run Try.prog W = .ok qc W := fun W => eq_vec (a := ⟨x0, x1, x2, x3, x4, x5, x6⟩) (b := ⟨y0, y1, y2, y3, y4, y5, y6⟩) hqc.symm W
  have HE : Hid (∀ W, Below w.heap.size w W → Calls Try.prog 41 #[v1, v2] W fun e w' => e = .returned (.bool ql) ∧ Below W.heap.size W w') := fun W hW => by rw [hql]; exact equalD_any v1 v2 l1 l2 W (h1.below hW).row (h2.below hW).row hl
  obtain ⟨a0, a1, a2, a3, a4, a5, a6, a7⟩ := cells8_all h1.blk
  obtain ⟨b0, b1, b2, b3, b4, b5, b6, b7⟩ := cells8_all h2.blk
  simp only at a0 a1 a2 a3 a4 a5 a6 b0 b1 b2 b3 b4 b5 b6
  have hne : Nonempty (NewW w) := ⟨NewW.start w⟩
  clear h1 h2 hr hqc hql
  cases qc with
  | true =>
    go_enter Try.func14, Try.ntmps14
    go_wp2_with fail
    refine wp_region_new (by kernel_rfl) (by kernel_rfl) ?_
    repeat (go_big_quiet_step ((first | (exact new_of (HE.out _ (NewW.h _))))))
    refine wpQuiet_nil ?_
    rintro _ ⟨w2, rfl⟩
    go_wp2
    go_ret
    exact ⟨by rw [HR.out]; simp, w2.h⟩
  | false =>
    go_enter Try.func14, Try.ntmps14
    go_wp2_with fail
    refine wp_region_new (by kernel_rfl) (by kernel_rfl) ?_
    repeat (go_big_quiet_step ((first | (exact new_of (HE.out _ (NewW.h _))))))
    refine wpQuiet_nil ?_
    rintro _ ⟨w2, rfl⟩
    go_wp2
    go_ret
    exact ⟨by rw [HR.out]; simp, w2.h⟩
end Go.Proofs.Ytglmmhgmdhdleaa

namespace Go.Proofs.Ytglmmhgmdhdleaa
open Go.RowKit Go.Lib
set_option linter.unusedVariables false

def Fresh (w : World) (v : Value) : Prop := ∀ b, v.ownBlock = some b → w.heap.size ≤ b
set_option maxRecDepth 100000 in
set_option maxHeartbeats 1000000 in
theorem growD_any (n : Nat) (w : World) (hn : n ≤ 1000000) :
    Calls Try.prog 69 #[.slice none 0 0, .int .i64 n] w fun e w' => (∃ v, e = .returned v ∧ OwnD w' v [] ∧ Fresh w v) ∧ Below w.heap.size w w' := by
  obtain ⟨i0, hi, hz0, hz1, hz2⟩ := info_parts info_dot
  have hrz : ∀ (ty : TypeId), 0 < n → (Builtin.append_ #[37, 3] ty #[.slice none 0 0, .int .i64 n]).run Try.prog w = _ := fun ty h0 =>
    Lib.run_append_nil_zeros w 37 3 ty 29 i0 (.agg #[.int .i64 0, .int .i64 0]) .i64 .i64 u_dots Try.underlying3 hi hz0 n h0 (by rw [hz1]; decide) (by omega) (by rw [hz2]; omega)
  have HR : Hid _ := hrz
  clear hrz
  go_enter Try.func69, Try.ntmps69
  by_cases h0 : 0 < n
  · have hG0 := grownCap_ge w n 0 29
    have hGm : grownCap w n 0 29 ≤ maxLen := grownCap_le_maxLen w n 0 29 (by unfold maxLen; omega)
    have HO : Hid (OwnD (w.drew.alloc (.cells (Builtin.zeroCells (Value.agg #[.int .i64 0, .int .i64 0]).cells n ++ Builtin.zeroCells (Value.agg #[.int .i64 0, .int .i64 0]).cells (grownCap w n 0 29 - n)) 29)) (.slice (some ⟨w.heap.size, 0, none⟩) 0 (grownCap w n 0 29)) []) := by
      refine OwnD.make (l := []) (cur := (Builtin.zeroCells (Value.agg #[.int .i64 0, .int .i64 0]).cells n ++ Builtin.zeroCells (Value.agg #[.int .i64 0, .int .i64 0]).cells (grownCap w n 0 29 - n)).toList) (by rw [Array.toArray_toList]; exact heap_alloc_new w.drew _) (Nat.zero_le _) hGm ?_ rfl
      rw [Array.toList_append, zero_dots, zero_dots, List.length_append, rowD_length, rowD_length, List.length_replicate, List.length_replicate]
      omega
    have hG1 : grownCap w n 0 29 ≤ 9223372036854775807 := Nat.le_trans hGm (by decide)
    have h1 := HR.out 37 h0
    have H1 : Hid _ := h1
    clear HR h1 hGm
    generalize grownCap w n 0 29 = G at *
    go_wp2_with (at_builtin; go_must (refine Lib.wpList_append_run _ rfl _ _ _ _ rfl _ _ rfl rfl _ _ H1.out ?_))
    go_ret
    exact ⟨⟨_, rfl, HO.out, fun b hb => by cases hb; exact Nat.le_refl _⟩, (Below.refl _ w).drew.alloc (by simp) _⟩
  · obtain rfl : n = 0 := by omega
    clear HR
    go_wp2
    go_ret
    exact ⟨⟨_, rfl, OwnD.nil _, fun b hb => by cases hb⟩, Below.refl _ _⟩
set_option maxRecDepth 100000 in
set_option maxHeartbeats 4000000 in
theorem concatD_any (b : Nat) (v1 v2 : Value) (l1 l2 : List C.Dt) (w : World) (c0 : w.cell? ⟨b, 0, none⟩ = some v1) (c1 : w.cell? ⟨b, 1, none⟩ = some v2) (h1 : OwnD w v1 l1) (h2 : OwnD w v2 l2) (hl1 : l1.length ≤ 100000) (hl2 : l2.length ≤ 100000) :
    Calls Try.prog 48 #[.slice (some ⟨b, 0, none⟩) 2 2] w fun e w' => (∃ v, e = .returned v ∧ OwnD w' v (l1 ++ l2) ∧ Fresh w v) ∧ Below w.heap.size w w' := by
  obtain ⟨q1, k1, hv1⟩ := h1.len
  obtain ⟨q2, k2, hv2⟩ := h2.len
  subst hv1 hv2
  have H1 : Hid (OwnD w (.slice q1 l1.length k1) l1) := h1
  have H2 : Hid (OwnD w (.slice q2 l2.length k2) l2) := h2
  have C0 : Hid (w.cell? ⟨b, 0, none⟩ = some (.slice q1 l1.length k1)) := c0
  have C1 : Hid (w.cell? ⟨b, 1, none⟩ = some (.slice q2 l2.length k2)) := c1
  clear h1 h2
  obtain ⟨n1, hn1⟩ : ∃ n, n = l1.length := ⟨_, rfl⟩
  obtain ⟨n2, hn2⟩ : ∃ n, n = l2.length := ⟨_, rfl⟩
  have HN1 : Hid (n1 = l1.length) := hn1
  have HN2 : Hid (n2 = l2.length) := hn2
  rw [← hn1] at c0 hl1
  rw [← hn2] at c1 hl2
  clear hn1 hn2
  go_enter Try.func48, Try.ntmps48
  go_wp2
  refine wp_loop_rounds 3 ?_
  repeat (rw [rounds_succ]; go_wp2_with fail)
  clear c0 c1
  have e12 : (n1 : Int) + (n2 : Int) = ((n1 + n2 : Nat) : Int) := by omega
  rw [e12]
  clear e12
  refine (growD_any (n1 + n2) _ (by omega)).mono ?_
  rintro e w1 ⟨⟨v, rfl, ho, hf⟩, hb⟩
  have HO : Hid (OwnD w1 v []) := ho
  have HF : Hid (Fresh w v) := hf
  have HB : Hid (Below w.heap.size w w1) := hb
  have c0 : w1.cell? ⟨b, 0, none⟩ = some (.slice q1 n1 k1) := by rw [HN1.out]; exact (hb.cell (p := ⟨b, 0, none⟩) (World.block_lt_of_cell? _ _ C0.out)).trans C0.out
  clear ho hf hb
  go_wp2
  refine wp_loop_rounds 3 ?_
  rw [rounds_succ]
  go_wp2_with (at_builtin; go_must (refine wpList_append_src u_dots info_dot rfl (by decide) rfl _ _ rfl rfl HO.out rfl (by rw [HN1.out]; exact row_src (H1.out.below HB.out)) (rowD_one l1) (by have := HN1.out; simp only [List.length_nil]; unfold maxLen; omega) (by have := HN1.out; simp only [List.length_nil]; omega) ?_); intro v2 w2 ho2 hg2 hb2)
  have HO2 : Hid (OwnD w2 v2 l1) := by show OwnD _ _ _; simpa [OwnD, rowD] using ho2
  have HB2 : Hid (Below w.heap.size w w2) := bel_grown HB.out hg2 HF.out
  have HF2 : Hid (Fresh w v2) := fun b hb => by
    rcases hb2 with k | k
    · exact HF.out b (k ▸ hb)
    · rw [k] at hb; cases hb; exact HB.out.size
  have c1 : w2.cell? ⟨b, 1, none⟩ = some (.slice q2 n2 k2) := by rw [HN2.out]; exact (HB2.out.cell (p := ⟨b, 1, none⟩) (World.block_lt_of_cell? _ _ C1.out)).trans C1.out
  clear ho2 hg2 hb2 HO HF HB c0
  rw [rounds_succ]
  go_wp2_with (at_builtin; go_must (refine wpList_append_src u_dots info_dot rfl (by decide) rfl _ _ rfl rfl HO2.out rfl (by rw [HN2.out]; exact row_src (H2.out.below HB2.out)) (rowD_one l2) (by have := HN1.out; have := HN2.out; unfold maxLen; omega) (by have := HN1.out; have := HN2.out; omega) ?_); intro v3 w3 ho3 hg3 hb3)
  have HO3 : Hid (OwnD w3 v3 (l1 ++ l2)) := by show OwnD _ _ _; unfold OwnD; rw [List.length_append, ← rowD_append]; exact ho3
  have HB3 : Hid (Below w.heap.size w w3) := bel_grown HB2.out hg3 HF2.out
  have HF3 : Hid (Fresh w v3) := fun b hb => by
    rcases hb3 with k | k
    · exact HF2.out b (k ▸ hb)
    · rw [k] at hb; cases hb; exact HB2.out.size
  clear ho3 hg3 hb3 HO2 HF2 HB2 c1
  rw [rounds_succ]
  go_wp2
  go_ret
  exact ⟨⟨v3, rfl, HO3.out, HF3.out⟩, HB3.out⟩
end Go.Proofs.Ytglmmhgmdhdleaa
