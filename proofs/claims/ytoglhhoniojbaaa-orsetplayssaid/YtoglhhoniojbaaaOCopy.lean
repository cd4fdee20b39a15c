/-
  orset: Copy.
-/
import Derived.Test.YtoglhhoniojbaaaOAll
import Derived.Test.YtoglhhoniojbaaaBGMap3
import Derived.Test.YtoglhhoniojbaaaLayQ
namespace Go.Proofs.Ytoglhhoniojbaaa
open Go.RowKit Go.Lib Go.Maps Go.Sort Go.Shelf
set_option linter.unusedVariables false

theorem drop_nil {t : Prop} [Decidable t] {α : Type} {v : α} {o : Option α} (h : o = if t then none else some v) {c : α} (ho : o = some c) : ¬ t ∧ v = c := by
  rw [ho] at h
  by_cases ht : t
  · rw [if_pos ht] at h; cases h
  · rw [if_neg ht] at h; exact ⟨ht, (Option.some.inj h).symm⟩
/-- While the texts are copied: from map bT (gone through by r) to map b3. -/
structure CpAt (w : World) (bT : Nat) (th : Tx → List C.Dt) (n : Nat) (m : Lit → Option Value) (left : Lit → Bool) (cnt N : Nat) (m' : Lit → Option Value) (rv : Tx → Value) (wr : World) : Prop where
  rg : GRange wr 9 bT (w.heap.size + 1) n m left cnt
  mp : GMap wr 9 w.heap.size N m'
  le : N + cnt ≤ n
  val : ∀ x, m' (sk x) = if th x = [] ∨ left (sk x) = true then none else some (rv x)
  row : ∀ x, th x ≠ [] → left (sk x) = false → OwnD wr (rv x) (th x) ∧ ∀ b, (rv x).ownBlock = some b → w.heap.size + 2 ≤ b
  sep : ∀ x y b, th x ≠ [] → th y ≠ [] → left (sk x) = false → left (sk y) = false → (rv x).ownBlock = some b → (rv y).ownBlock = some b → x = y
  bel : Below w.heap.size w wr
def Cp (w : World) (bT : Nat) (th : Tx → List C.Dt) (n : Nat) (m : Lit → Option Value) (left : Lit → Bool) (cnt : Nat) (wr : World) : Prop := ∃ N m' rv, CpAt w bT th n m left cnt N m' rv wr
theorem sk_key (x y : Tx) : (sk x).sameKey (sk y) = true ↔ x = y := by
  constructor
  · intro h
    by_cases hs : sk x = sk y
    · exact sk_inj hs
    · rw [sameKey_ne hs] at h; cases h
  · rintro rfl
    exact WideAt.sameKey_self trivial
theorem cp_step {w wr w' w2 : World} {bT n cnt cnt' : Nat} {th : Tx → List C.Dt} {m : Lit → Option Value} {left : Lit → Bool} {x : Tx} {v' : Value} (hbT : bT < w.heap.size) (h : Cp w bT th n m left cnt wr) (hx : th x ≠ []) (hl : left (sk x) = true)
    (hr : GRange w' 9 bT (w.heap.size + 1) n m (fun z => left z && !z.sameKey (sk x)) cnt') (hc : cnt' < cnt) (hg : wr.grownBy w' (some (w.heap.size + 1))) (hsz : w'.heap.size = wr.heap.size)
    (hb : Below w'.heap.size w' w2) (ho : OwnD w2 v' (th x)) (hf : ∀ b, v'.ownBlock = some b → w'.heap.size ≤ b) :
    ∃ N m', GMap w2 9 w.heap.size N m' ∧ N < n ∧ ∀ w3, GMap w3 9 w.heap.size (N + 1) (gput m' (sk x) (some v')) → w2.grownBy w3 (some w.heap.size) → Cp w bT th n m (fun z => left z && !z.sameKey (sk x)) cnt' w3 := by
  obtain ⟨N, m', rv, k⟩ := h
  have h1 := k.mp.lt
  have h2 := k.rg.lt
  have m2 : GMap w2 9 w.heap.size N m' := (k.mp.same (hg.block _ h1 (by simp))).below hb
  have hb12 : ∀ b, b < wr.heap.size → b ≠ w.heap.size + 1 → w2.heap[b]? = wr.heap[b]? := fun b hb1 hb2 => (hb.block b (by omega)).trans (hg.block b hb1 fun e => hb2 (Option.some.inj e))
  have lft : ∀ y, (left (sk y) && !(sk y).sameKey (sk x)) = false ↔ (left (sk y) = false ∨ y = x) := fun y => by
    rw [Bool.and_eq_false_iff, Bool.not_eq_false', sk_key]
  refine ⟨N, m', m2, by have := k.le; omega, fun w3 h3 hg3 => ⟨N + 1, gput m' (sk x) (some v'), fun y => if y = x then v' else rv y, ?_⟩⟩
  have hs2 := hb.size
  have hs3 := hg3.size
  have b23 : ∀ b, b < w2.heap.size → b ≠ w.heap.size → w3.heap[b]? = w2.heap[b]? := fun b hb1 hb2 => hg3.block b hb1 fun e => hb2 (Option.some.inj e)
  refine ⟨(hr.same (hb.block _ hr.gmap.lt) (hb.block _ hr.lt)).same (b23 _ (by omega) (by omega)) (b23 _ (by omega) (by omega)), h3, by have := k.le; omega, fun y => ?_, fun y hy hly => ?_, fun y z b hy hz hly hlz e1 e2 => ?_, ?_⟩
  · by_cases hyx : y = x
    · subst hyx
      rw [gput_same, if_pos rfl, if_neg]
      rintro (e | e)
      · exact hx e
      · rw [(lft y).2 (Or.inr rfl)] at e; cases e
    · rw [gput_other _ _ fun e => hyx (sk_inj e), k.val y, if_neg hyx]
      have e : (left (sk y) && !(sk y).sameKey (sk x)) = left (sk y) := by
        cases hq : left (sk y) with
        | false => rfl
        | true =>
          cases hq2 : (sk y).sameKey (sk x) with
          | false => rfl
          | true => exact absurd ((sk_key _ _).1 hq2) hyx
      rw [e]
  · by_cases hyx : y = x
    · subst hyx
      rw [if_pos rfl]
      exact ⟨ho.same fun b hb' => b23 b (row_lt ho hb') (by have := hf b hb'; omega), fun b hb' => by have := hf b hb'; omega⟩
    · rw [if_neg hyx]
      obtain ⟨r1, r2⟩ := k.row y hy (((lft y).1 hly).resolve_right hyx)
      exact ⟨r1.same fun b hb' => (b23 b (by have := row_lt r1 hb'; omega) (by have := r2 b hb'; omega)).trans (hb12 b (row_lt r1 hb') (by have := r2 b hb'; omega)), r2⟩
  · by_cases hyx : y = x
    · by_cases hzx : z = x
      · rw [hyx, hzx]
      · exfalso
        rw [if_pos hyx] at e1
        rw [if_neg hzx] at e2
        have q1 := hf b e1
        have q2 := row_lt (k.row z hz (((lft z).1 hlz).resolve_right hzx)).1 e2
        omega
    · by_cases hzx : z = x
      · exfalso
        rw [if_neg hyx] at e1
        rw [if_pos hzx] at e2
        have q1 := hf b e2
        have q2 := row_lt (k.row y hy (((lft y).1 hly).resolve_right hyx)).1 e1
        omega
      · rw [if_neg hyx] at e1
        rw [if_neg hzx] at e2
        exact k.sep y z b hy hz (((lft y).1 hly).resolve_right hyx) (((lft z).1 hlz).resolve_right hzx) e1 e2
  · have g1 : Below w.heap.size w w' := ⟨hg.os.trans k.bel.os, hg.tape.trans k.bel.tape, hg.output.trans k.bel.output, by have := k.bel.size; omega, fun b hb' => (hg.block b (by have := k.bel.size; omega) (fun e => by have := Option.some.inj e; omega)).trans (k.bel.block b hb')⟩
    have g2 := bt g1 hb
    exact ⟨hg3.os.trans g2.os, hg3.tape.trans g2.tape, hg3.output.trans g2.output, by have := g2.size; omega, fun b hb' => (hg3.block b (by have := g2.size; omega) (fun e => by have := Option.some.inj e; omega)).trans (g2.block b hb')⟩
theorem cp_start {w w0 w1 : World} {bT n cnt : Nat} {th : Tx → List C.Dt} {m : Lit → Option Value} (hm : ∀ x, m (sk x) = none ∨ th x ≠ []) (hm2 : ∀ x, th x ≠ [] → (m (sk x)).isSome = true) (hw0 : w0 = w.alloc (.map #[] 0)) (hr : GRange w1 9 bT w0.heap.size n m (fun k => (m k).isSome) cnt) (hc : cnt ≤ n) (hg : w0.grownBy w1 none) : Cp w bT th n m (fun k => (m k).isSome) cnt w1 := by
  subst hw0
  rw [World.size_alloc] at hr
  have h0 := GMap.made w 9
  refine ⟨0, fun _ => none, fun _ => .slice none 0 0, hr, h0.same (hg.block _ h0.lt (by simp)), by omega, fun x => ?_, fun x hx hl => ?_, fun x y b hx hy hl => ?_, bt (below_new w _) ⟨hg.os, hg.tape, hg.output, hg.size, fun b hb => hg.block b hb (fun e => by cases e)⟩⟩
  · rw [if_pos]
    by_cases hx : th x = []
    · exact Or.inl hx
    · exact Or.inr (hm2 x hx)
  · rw [hm2 x hx] at hl; cases hl
  · rw [hm2 x hx] at hl; cases hl

/-- What Copy makes. -/
theorem copy_at {w wE W1 W2 W3 : World} {g g' n cnt bA bG : Nat} {L : OLay} {S : C.Os} {left : Lit → Bool} {m mA mG : Lit → Option Value} (hS : SetAt w g n L S) (hl : ∀ k, left k = false) (h : Cp w L.bT S.th n m left cnt wE)
    (hA : GMap W1 31 bA n mA) (hrA : ∀ d, C.may d = true → mA (dk d) = (S.ad d).map ownV) (hkA : ∀ kl v, mA kl = some v → ∃ d, C.may d = true ∧ kl = dk d) (hbA : wE.heap.size ≤ bA) (hAs : bA < W1.heap.size) (b1 : Below wE.heap.size wE W1)
    (hG : GMap W2 9 bG n mG) (hrG : ∀ x, mG (sk x) = if C.same (S.go x) C.z7 = true then none else some (S.go x).v) (hbG : W1.heap.size = bG) (b2 : Below W1.heap.size W1 W2)
    (hq : W3.heap[g']? = some (.cells #[.map (some bA), .map (some w.heap.size), .map (some bG)] 65)) (hgs : W2.heap.size = g') (b3 : Below W2.heap.size W2 W3) :
    ∃ L', SetAt W3 g' n L' S ∧ ∀ b, L'.foot g' S b → w.heap.size ≤ b := by
  obtain ⟨N, m', rv, k⟩ := h
  have s0 := k.bel.size
  have s1 := b1.size
  have s2 := b2.size
  have k1 := k.mp.lt
  have bE := bt b1 (bt b2 b3)
  refine ⟨⟨bA, w.heap.size, bG, rv⟩, ⟨hq, ⟨mA, hA.below (bt b2 b3), hrA⟩, ⟨m', (k.mp.below bE).mono (by have := k.le; omega), fun x => ?_⟩, ⟨mG, hG.below b3, hrG⟩, fun x hx => (k.row x hx (hl _)).1.below bE, fun x y b hx hy e1 e2 => k.sep x y b hx hy (hl _) (hl _) e1 e2, ?_, ⟨mA, hA.below (bt b2 b3), hkA⟩⟩, ?_⟩
  · rw [k.val x]
    by_cases hx : S.th x = []
    · rw [if_pos hx, if_pos (Or.inl hx)]
    · rw [if_neg hx, if_neg]
      rintro (e | e)
      · exact hx e
      · rw [hl] at e; cases e
  · exact ⟨fun e => by simp only at e; omega, fun e => by simp only at e; omega, fun e => by simp only at e; omega⟩
  · rintro b (rfl | rfl | rfl | rfl | ⟨x, hx, hb⟩)
    · omega
    · omega
    · exact Nat.le_refl _
    · omega
    · have := (k.row x hx (hl _)).2 b hb; omega
set_option maxRecDepth 100000 in
set_option maxHeartbeats 8000000 in
theorem ocopy_any (w : World) (g n : Nat) (L : OLay) (S : C.Os) (h : SetAt w g n L S) (hn : n < maxLen) (hl : ∀ x, (S.th x).length ≤ 1000000) :
    Calls Try.prog 14 #[.pointer (some ⟨g, 0, none⟩)] w fun e w' => (∃ g' L', e = .returned (.pointer (some ⟨g', 0, none⟩)) ∧ SetAt w' g' n L' S ∧ ∀ b, L'.foot g' S b → w.heap.size ≤ b) ∧ Below w.heap.size w w' := by
  obtain ⟨m, hm, hmr⟩ := h.mT
  obtain ⟨mA, hA, hrA⟩ := h.mA
  have HKA : Hid (∀ kl v, mA kl = some v → ∃ d, C.may d = true ∧ kl = dk d) := h.keys hA
  obtain ⟨mG, hG, hrG⟩ := h.mG
  have hbT := hm.lt
  obtain ⟨w0, hw0⟩ : ∃ w0, w0 = w.alloc (.map #[] 0) := ⟨_, rfl⟩
  have hb0 : Below w.heap.size w w0 := by rw [hw0]; exact below_new w _
  have HS : Hid (SetAt w g n L S) := h
  have HM0 : Hid (GMap w0 9 L.bT n m) := hm.below hb0
  have HMR : Hid (∀ x, m (sk x) = if S.th x = [] then none else some (L.rv x)) := hmr
  have HA : Hid (GMap w 31 L.bA n mA) := hA
  have HG : Hid (GMap w 9 L.bG n mG) := hG
  have HRA : Hid (∀ d, C.may d = true → mA (dk d) = (S.ad d).map ownV) := hrA
  have HRG : Hid (∀ x, mG (sk x) = if C.same (S.go x) C.z7 = true then none else some (S.go x).v) := hrG
  have HN : Hid (n < maxLen) := hn
  have HL : Hid (∀ x, (S.th x).length ≤ 1000000) := hl
  have HBT : Hid (L.bT < w.heap.size) := hbT
  have HW0 : Hid (w0 = w.alloc (.map #[] 0)) := hw0
  have HSZ0 : Hid (w0.heap.size = w.heap.size + 1) := by show _ = _; rw [hw0, World.size_alloc]
  have h1 : (w.alloc (.map #[] 0)).cell? ⟨g, 1, none⟩ = some (.map (some L.bT)) := by rw [← hw0]; exact (h.below hb0).cells.2.1
  have hmm := @run_makeMap Try.prog
  have HB0 : Hid (Below w.heap.size w w0) := hb0
  clear h hm hmr hA hG hrA hrG hn hl hbT hb0
  go_enter Try.func14, Try.ntmps14
  rw [hw0] at HM0
  clear hw0
  go_wp2_with (at_range; go_must (refine wpList_range_gmap rfl _ _ rfl Try.underlying62 str_keys HM0.out rfl ?_); intro w1 cnt0 hrg0 hc0 hg0 hs0)
  try go_frame
  have HC0 : Hid (Cp w L.bT S.th n m (fun k => (m k).isSome) cnt0 w1) := cp_start (w0 := w.alloc (.map #[] 0)) (fun x => by
    by_cases hx : S.th x = []
    · exact Or.inl (by rw [HMR.out x, if_pos hx])
    · exact Or.inr hx) (fun x hx => by rw [HMR.out x, if_neg hx]; rfl) rfl hrg0 hc0 hg0
  rw [show (w.alloc (.map #[] 0)).heap.size = w.heap.size + 1 from World.size_alloc _ _]
  clear hmm hrg0 hc0 hg0 hs0 h1 HM0
  go_loopw [] (fun wr => ∃ left cnt, Hid (Cp w L.bT S.th n m left cnt wr)) (fun wr => wr.rangeLeft L.bT (w.heap.size + 1))
  case atStart => exact ⟨_, _, HC0⟩
  case round =>
    clear HC0
    obtain ⟨left, cnt, HC⟩ := hrel
    have HR : Hid (GRange wr 9 L.bT (w.heap.size + 1) n m left cnt) := by obtain ⟨_, _, _, k⟩ := HC.out; exact k.rg
    go_wp2_with (at_next; go_must (refine wpList_next_gmap rfl _ rfl str_keys HR.out rfl ?_ ?_))
    · intro hlf
      have HLF : Hid (∀ k, left k = false) := hlf
      clear hlf HR
      have HBE : Hid (Below w.heap.size w wr) := by obtain ⟨_, _, _, k⟩ := HC.out; exact k.bel
      have c0 : ∀ t : NewW wr, t.v.cell? ⟨g, 0, none⟩ = some (.map (some L.bA)) := fun t => (HS.out.below (bt HBE.out t.h)).cells.1
      have c2 : ∀ t : NewW wr, t.v.cell? ⟨g, 2, none⟩ = some (.map (some L.bG)) := fun t => (HS.out.below (bt HBE.out t.h)).cells.2.2
      have hne : Nonempty (NewW wr) := ⟨NewW.start wr⟩
      go_wp2_with fail
      have hC : ∃ m : NewW wr, wr.drew = m.v := ⟨⟨wr.drew, (Below.refl _ wr).drew⟩, rfl⟩
      refine wp_region_held_drew (S := fun w' => ∃ m : NewW wr, w' = m.v) (by kernel_rfl) hC (fun _ => ?_)
      have hB : Below wr.heap.size wr wr.drew := (Below.refl _ wr).drew
      generalize hW0 : wr.drew = W0 at *
      clear hW0
      refine takeList (i := 0) rfl (by kernel_rfl) (by kernel_rfl) (by kernel_rfl) (fun _ _ _ _ h => h) rfl rfl hC (fun K hK => ?_)
      go_big_quiet_op
      refine hK _ ?_
      clear hK K
      refine takeNil (i := 1) rfl rfl rfl (by kernel_rfl) (by kernel_rfl) (by kernel_rfl) (fun _ _ _ _ h => h) rfl hC ?_
      go_simp
      refine takeList (i := 2) rfl (by kernel_rfl) (by kernel_rfl) (by kernel_rfl) (fun _ _ _ _ h => h) rfl rfl hC (fun K hK => ?_)
      go_big_quiet_op
      refine hK _ ?_
      clear hK K
      refine takeList (i := 3) rfl (by kernel_rfl) (by kernel_rfl) (by kernel_rfl) (fun _ _ _ _ h => h) rfl rfl hC (fun K hK => ?_)
      go_big_quiet_op
      refine hK _ ?_
      clear hK K
      refine takeList (i := 5) rfl (by kernel_rfl) (by kernel_rfl) (by kernel_rfl) (fun _ _ _ _ h => h) rfl rfl hC (fun K hK => ?_)
      go_big_quiet_op
      refine hK _ ?_
      clear hK K
      refine takeList (i := 6) rfl (by kernel_rfl) (by kernel_rfl) (by kernel_rfl) (fun _ _ _ _ h => h) rfl rfl hC (fun K hK => ?_)
      go_big_quiet_op
      refine hK _ ?_
      clear hK K
      refine takeNil (i := 7) rfl rfl rfl (by kernel_rfl) (by kernel_rfl) (by kernel_rfl) (fun _ _ _ _ h => h) rfl hC ?_
      go_simp
      refine takeList (i := 8) rfl (by kernel_rfl) (by kernel_rfl) (by kernel_rfl) (fun _ _ _ _ h => h) rfl rfl hC (fun K hK => ?_)
      go_big_quiet_op
      refine hK _ ?_
      clear hK K
      refine takeList (i := 9) rfl (by kernel_rfl) (by kernel_rfl) (by kernel_rfl) (fun _ _ _ _ h => h) rfl rfl hC (fun K hK => ?_)
      go_big_quiet_op
      refine hK _ ?_
      clear hK K
      have HB00 : Hid (Below wr.heap.size wr W0) := hB
      refine callList (i := 4) rfl (by kernel_rfl) rfl (fun K hK => ?_)
      go_simp
      refine Calls.mono (gclone Try.clA (HA.out.below (bt HBE.out hB))) ?_
      rintro e W1 ⟨rfl, hmA, hk⟩
      replace hB := bt hB hk
      refine hK.out _ _ ⟨⟨_, hB⟩, rfl⟩ ?_
      try go_simp
      clear hK K hC
      have hC : ∃ t : NewW wr, W1 = t.v := ⟨⟨_, hB⟩, rfl⟩
      obtain ⟨bA, hbA⟩ : ∃ bA, W0.heap.size = bA := ⟨_, rfl⟩
      rw [hbA] at hmA ⊢
      have HGA : Hid (GMap W1 31 bA n mA) := hmA
      have HBA : Hid (wr.heap.size ≤ bA ∧ bA < W1.heap.size) := ⟨by rw [← hbA]; exact HB00.out.size, hmA.lt⟩
      have HB1 : Hid (Below wr.heap.size wr W1) := hB
      clear hmA hbA hk HB00
      refine callList (i := 10) rfl (by kernel_rfl) rfl (fun K hK => ?_)
      go_simp
      refine Calls.mono (gclone Try.clG (HG.out.below (bt HBE.out hB))) ?_
      rintro e W2 ⟨rfl, hmG, hk⟩
      replace hB := bt hB hk
      refine hK.out _ _ ⟨⟨_, hB⟩, rfl⟩ ?_
      try go_simp
      clear hK K hC
      have hC : ∃ t : NewW wr, W2 = t.v := ⟨⟨_, hB⟩, rfl⟩
      obtain ⟨bG, hbG⟩ : ∃ bG, W1.heap.size = bG := ⟨_, rfl⟩
      have HBG : Hid (W1.heap.size = bG) := hbG
      have HB2 : Hid (Below W1.heap.size W1 W2) := hk
      rw [hbG] at hmG ⊢
      have HGG : Hid (GMap W2 9 bG n mG) := hmG
      clear hmG hbG hk
      refine takeList (i := 11) rfl (by kernel_rfl) (by kernel_rfl) (by kernel_rfl) (fun _ _ _ _ h => h) rfl rfl hC (fun K hK => ?_)
      go_big_quiet_op
      refine hK _ ?_
      clear hK K
      refine wpAnyH_ready (rs := [12]) (by kernel_rfl) (by simp) (AllReadyH.cons (at_of_drop (i := 12) rfl) (fun K hK => ?_) AllReadyH.nil)
      rw [if_pos (by rfl)]
      go_simp
      have hal := below_new W2 (.cells #[.map (some bA), .map (some w.heap.size), .map (some bG)] 65)
      have HQ3 : Hid ((World.alloc W2 (.cells #[.map (some bA), .map (some w.heap.size), .map (some bG)] 65)).heap[W2.heap.size]? = some (.cells #[.map (some bA), .map (some w.heap.size), .map (some bG)] 65)) := heap_alloc_new W2 _
      have HB3 : Hid (Below W2.heap.size W2 (World.alloc W2 (.cells #[.map (some bA), .map (some w.heap.size), .map (some bG)] 65))) := hal
      replace hB := bt hB hal
      refine hK.out _ _ ⟨⟨_, hB⟩, rfl⟩ (fun hC => ?_)
      clear hK K hal
      generalize World.alloc W2 (.cells #[.map (some bA), .map (some w.heap.size), .map (some bG)] 65) = W3 at *
      obtain ⟨g', hg'⟩ : ∃ g', W2.heap.size = g' := ⟨_, rfl⟩
      have HGS : Hid (W2.heap.size = g') := hg'
      rw [hg'] at HQ3 ⊢
      have HB : Hid (Below w.heap.size w W3) := bt HBE.out hB
      clear hg' hB
      refine takeList (i := 13) rfl (by kernel_rfl) (by kernel_rfl) (by kernel_rfl) (fun _ _ _ _ h => h) rfl rfl hC (fun K hK => ?_)
      go_big_quiet_op
      refine hK _ ?_
      clear hK K
      refine wpAnyH_done (by kernel_rfl) ?_ _
      have HF : Hid _ := copy_at HS.out HLF.out HC.out HGA.out HRA.out HKA.out HBA.out.1 HBA.out.2 HB1.out HGG.out HRG.out HBG.out HB2.out HQ3.out HGS.out HB3.out
      clear c0 c2 hne hC
      go_wp2
      go_ret
      obtain ⟨L', f1, f2⟩ := HF.out
      exact ⟨⟨g', L', rfl, f1, f2⟩, HB.out⟩
    · intro key v kl w2 cnt2 hkey hlk hmk hrg2 hlt2 hg2 hs2 hen
      obtain ⟨b, rfl, rfl, hlen⟩ := keyOf_str Try.underlying9 hkey
      obtain ⟨x, hx⟩ : ∃ x : Tx, x = ⟨b.toArray⟩ := ⟨_, rfl⟩
      have hbx : Lit.string b = sk x := by rw [hx, sk]
      have hbv : encStr b = .string x := by rw [hx, encStr]
      rw [hbx] at hkey hlk hmk hrg2
      rw [hbv] at hkey hen ⊢
      clear hbx hbv
      obtain ⟨hth, rfl⟩ := drop_nil (HMR.out x) hmk
      have HX : Hid (x.size ≤ maxLen) := by show x.size ≤ _; rw [hx]; show b.toArray.size ≤ _; simpa using hlen
      have hbel2 : Below w.heap.size w w2 := by
        obtain ⟨_, _, _, k⟩ := HC.out
        exact ⟨hg2.os.trans k.bel.os, hg2.tape.trans k.bel.tape, hg2.output.trans k.bel.output, by have := k.bel.size; omega, fun b hb' => (hg2.block b (by have := k.bel.size; omega) (fun e => by have := Option.some.inj e; omega)).trans (k.bel.block b hb')⟩
      have HCL : Hid _ := cloneD_any (L.rv x) (S.th x) w2 ((HS.out.below hbel2).row x hth) (HL.out x)
      have HST : Hid (∀ (w3 : World) (v' : Value), Below w2.heap.size w2 w3 → OwnD w3 v' (S.th x) → (∀ b, v'.ownBlock = some b → w2.heap.size ≤ b) → ∃ N m', GMap w3 9 w.heap.size N m' ∧ N < n ∧ ∀ w4, GMap w4 9 w.heap.size (N + 1) (gput m' (sk x) (some v')) → w3.grownBy w4 (some w.heap.size) → Cp w L.bT S.th n m (fun z => left z && !z.sameKey (sk x)) cnt2 w4) := fun w3 v' q1 q2 q3 => cp_step HBT.out HC.out hth hlk hrg2 hlt2 hg2 hs2 q1 q2 q3
      have HLT : Hid (cnt2 < cnt) := hlt2
      have HLE : Hid (wr.rangeLeft L.bT (w.heap.size + 1) = cnt) := HR.out.left_eq
      clear hx hkey hlk hmk hrg2 hlt2 hg2 hs2 hth hbel2 hlen HC HR
      generalize L.rv x = vx at *
      go_wp2_with fail
      refine Calls.mono HCL.out ?_
      rintro e w3 ⟨⟨v', rfl, h1, h2⟩, h3⟩
      obtain ⟨N, m', k1, k2, k3⟩ := HST.out w3 v' h3 h1 h2
      have HK1 : Hid (GMap w3 9 w.heap.size N m') := k1
      have HK2 : Hid (N < maxLen) := Nat.lt_trans k2 HN.out
      have HK3 : Hid _ := k3
      clear h1 h2 h3 k1 k2 k3 HCL HST hen
      go_wp2_with (at_mapUpdate; go_must (refine wpList_store_gmap rfl _ _ _ _ rfl Try.underlying62 str_keys HK1.out HK2.out (str_key HX.out) rfl rfl rfl ?_); intro w4 j1 j2)
      try go_frame
      have HC4 : Hid _ := HK3.out w4 j1 j2
      clear j1 j2 HK1 HK3
      go_roundw
      case rel => exact ⟨_, _, HC4⟩
      case measure =>
        obtain ⟨_, _, _, k⟩ := HC4.out
        rw [HLE.out, k.rg.left_eq]
        exact HLT.out
theorem s_copy {w0 w : World} (Q1 Q2 : List OObj) (g n : Nat) (L : OLay) (S : C.Os) (h : OObjs w0 w (Q1 ++ ⟨g, n, L, S⟩ :: Q2)) (hn : n < maxLen) (hl : C.Few S 100000) :
    Calls Try.prog 14 #[.pointer (some ⟨g, 0, none⟩)] w fun e w' => ∃ g' L', e = .returned (.pointer (some ⟨g', 0, none⟩)) ∧ OObjs w0 w' ((Q1 ++ ⟨g, n, L, S⟩ :: Q2) ++ [⟨g', n, L', S⟩]) ∧ Below w.heap.size w w' :=
  (ocopy_any w g n L S h.get.1 hn (fun x => by have := hl x; omega)).mono fun e w' ⟨⟨g', L', he, h1, h2⟩, hb⟩ => ⟨g', L', he, h.more hb h1 h.get.2 h2, hb⟩
end Go.Proofs.Ytoglhhoniojbaaa
