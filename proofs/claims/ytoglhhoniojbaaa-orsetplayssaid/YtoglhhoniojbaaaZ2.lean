/-
  Several texts in one: OBase, OKey, OSet, OThere, OStep, OAdd, OAdd2, ODel.
-/
import Derived.Test.YtoglhhoniojbaaaBGMap
import Derived.Test.YtoglhhoniojbaaaOCmp
import Derived.Test.YtoglhhoniojbaaaZ1
import Derived.Test.YtoglhhoniojbaaaWVec2
import Derived.DeepKeys4
namespace Go.Proofs.Ytoglhhoniojbaaa
open Go.RowKit Go.Lib Go.Maps
set_option linter.unusedVariables false

theorem laidOutO : laidOutB Try.prog = true := by kernel_rfl
theorem str_keys : Keyed Try.prog 9 := string_keyed Try.underlying9
theorem dot_keys : Keyed Try.prog 31 := Keyed.of_law (deep_law_laid laidOutO (m := 2) (by omega) (of_decide_eq_true (by kernel_rfl)) (by kernel_rfl) (by rw [Try.underlying31]))
abbrev Tx := ByteArray
def sk (x : Tx) : Lit := .string x.data.toList
theorem sk_inj {x y : Tx} (h : sk x = sk y) : x = y := by
  unfold sk at h
  injection h with h
  cases x; cases y
  simp only [ByteArray.mk.injEq]
  exact Array.toList_inj.1 h
theorem str_key {x : Tx} (h : x.size ≤ maxLen) : keyOf Try.prog 9 (.string x) = some (sk x) := by
  simp [keyOf, mapKey, Try.underlying9, h, sk]
def dk (d : C.Dt) : Lit := .string (keyBytes [.int .i64 d.1, .int .i64 d.2])
end Go.Proofs.Ytoglhhoniojbaaa

namespace Go.Proofs.Ytoglhhoniojbaaa
open Go.RowKit Go.Lib Go.Maps
set_option linter.unusedVariables false

theorem dot_pos : 0 < Try.prog.types.size := of_decide_eq_true (by kernel_rfl)
theorem dot_rows : ∃ n, Try.prog.types.size = n + 1 := by
  have h := dot_pos
  generalize Try.prog.types.size = s at *
  exact ⟨s - 1, by omega⟩
theorem dot_kt : Try.prog.keyType 31 = true := by kernel_rfl
theorem dot_cells : Try.prog.cellsOf 31 = 2 := by kernel_rfl
theorem int_cells : Try.prog.cellsOf 3 = 1 := by kernel_rfl
theorem int64_cells : Try.prog.cellsOf 2 = 1 := by kernel_rfl
theorem dot_key_some {a b : Int} (ha : (Lit.int .i64 a).wf = true) (hb : (Lit.int .i64 b).wf = true) : keyOf Try.prog 31 (.agg #[.int .i64 a, .int .i64 b]) = some (dk (a, b)) := by
  obtain ⟨n, hn⟩ := dot_rows
  have h1 : Try.prog.keyLits (n + 1) 3 [.int .i64 a] = some [.int .i64 a] := by
    unfold Program.keyLits
    simp [Try.underlying3, ha]
  have h2 : Try.prog.keyLits (n + 1) 2 [.int .i64 b] = some [.int .i64 b] := by
    unfold Program.keyLits
    simp [Try.underlying2, hb]
  have h3 : Try.prog.keyLits (n + 1 + 1) 31 [.int .i64 a, .int .i64 b] = some [.int .i64 a, .int .i64 b] := by
    unfold Program.keyLits
    simp [Try.underlying31, dot_cells, int_cells, int64_cells, h1, h2]
  have hf : (Value.agg #[.int .i64 a, .int .i64 b]).formed Try.prog 31 = true := by simp [Value.formed, Try.underlying31, dot_cells]
  unfold keyOf
  simp only [Try.underlying31, dot_kt, hf, Bool.and_self, if_true, hn]
  rw [show (Value.agg #[Value.int .i64 a, .int .i64 b]).cells.toList = [.int .i64 a, .int .i64 b] from rfl, h3]
  rfl
theorem wf_small {a : Int} (h1 : -9223372036854775808 ≤ a) (h2 : a ≤ 9223372036854775807) : (Lit.int .i64 a).wf = true := by
  have e1 : IntKind.i64.min = -9223372036854775808 := by decide
  have e2 : IntKind.i64.max = 9223372036854775807 := by decide
  simp [Lit.wf, e1, e2]
  omega
theorem dot_key {d : C.Dt} (h : C.may d = true) : keyOf Try.prog 31 (.agg #[.int .i64 d.1, .int .i64 d.2]) = some (dk d) := by
  have hx := (C.may_iff d).1 h
  exact dot_key_some (wf_small (a := d.1) (by omega) (by omega)) (wf_small (a := d.2) (by omega) (by omega))
theorem dk_inj {d e : C.Dt} (hd : C.may d = true) (he : C.may e = true) (h : dk d = dk e) : d = e := by
  have h1 := dot_key hd
  rw [h] at h1
  have h2 := dot_keys.inj h1 (dot_key he)
  obtain ⟨d1, d2⟩ := d
  obtain ⟨e1, e2⟩ := e
  simpa using h2
end Go.Proofs.Ytoglhhoniojbaaa

namespace Go.Proofs.Ytoglhhoniojbaaa
open Go.RowKit Go.Lib Go.Maps
set_option linter.unusedVariables false

namespace C
def z7 : V7 := ⟨0, 0, 0, 0, 0, 0, 0⟩
/-- What a set holds: whose each dot is; each text's dots; what each text's removes had seen. -/
structure Os where
  ad : Dt → Option Tx
  th : Tx → List Dt
  go : Tx → V7
def Os.zero : Os := ⟨fun _ => none, fun _ => [], fun _ => z7⟩
end C
/-- Where it lies. -/
structure OLay where
  bA : Nat
  bT : Nat
  bG : Nat
  rv : Tx → Value
def OLay.foot (L : OLay) (g : Nat) (S : C.Os) (b : Nat) : Prop := b = g ∨ b = L.bA ∨ b = L.bT ∨ b = L.bG ∨ ∃ x, S.th x ≠ [] ∧ (L.rv x).ownBlock = some b
def ownV (t : Tx) : Value := .agg #[.string t]
structure SetAt (w : World) (g n : Nat) (L : OLay) (S : C.Os) : Prop where
  blk : w.heap[g]? = some (.cells #[.map (some L.bA), .map (some L.bT), .map (some L.bG)] 65)
  mA : ∃ m, GMap w 31 L.bA n m ∧ ∀ d, C.may d = true → m (dk d) = (S.ad d).map ownV
  mT : ∃ m, GMap w 9 L.bT n m ∧ ∀ x, m (sk x) = if S.th x = [] then none else some (L.rv x)
  mG : ∃ m, GMap w 9 L.bG n m ∧ ∀ x, m (sk x) = if C.same (S.go x) C.z7 = true then none else some (S.go x).v
  row : ∀ x, S.th x ≠ [] → OwnD w (L.rv x) (S.th x)
  sep : ∀ x y b, S.th x ≠ [] → S.th y ≠ [] → (L.rv x).ownBlock = some b → (L.rv y).ownBlock = some b → x = y
  ne : L.bA ≠ L.bT ∧ L.bA ≠ L.bG ∧ L.bT ≠ L.bG
  kA : ∃ m, GMap w 31 L.bA n m ∧ ∀ kl v, m kl = some v → ∃ d, C.may d = true ∧ kl = dk d
section
variable {w w' : World} {g n : Nat} {L : OLay} {S : C.Os}
theorem SetAt.lt (h : SetAt w g n L S) {b : Nat} (hb : L.foot g S b) : b < w.heap.size := by
  rcases hb with rfl | rfl | rfl | rfl | ⟨x, hx, hb⟩
  · exact (Array.getElem?_eq_some_iff.1 h.blk).1
  · obtain ⟨m, hm, _⟩ := h.mA; exact hm.lt
  · obtain ⟨m, hm, _⟩ := h.mT; exact hm.lt
  · obtain ⟨m, hm, _⟩ := h.mG; exact hm.lt
  · exact row_lt (h.row x hx) hb
theorem SetAt.same (h : SetAt w g n L S) (hs : ∀ b, L.foot g S b → w'.heap[b]? = w.heap[b]?) : SetAt w' g n L S where
  blk := (hs g (Or.inl rfl)).trans h.blk
  mA := by obtain ⟨m, hm, hr⟩ := h.mA; exact ⟨m, hm.same (hs _ (Or.inr (Or.inl rfl))), hr⟩
  mT := by obtain ⟨m, hm, hr⟩ := h.mT; exact ⟨m, hm.same (hs _ (Or.inr (Or.inr (Or.inl rfl)))), hr⟩
  mG := by obtain ⟨m, hm, hr⟩ := h.mG; exact ⟨m, hm.same (hs _ (Or.inr (Or.inr (Or.inr (Or.inl rfl))))), hr⟩
  row := fun x hx => (h.row x hx).same fun b hb => hs b (Or.inr (Or.inr (Or.inr (Or.inr ⟨x, hx, hb⟩))))
  sep := h.sep
  ne := h.ne
  kA := by obtain ⟨m, hm, hr⟩ := h.kA; exact ⟨m, hm.same (hs _ (Or.inr (Or.inl rfl))), hr⟩
theorem SetAt.below (h : SetAt w g n L S) (hb : Below w.heap.size w w') : SetAt w' g n L S := h.same fun b hf => hb.block b (h.lt hf)
theorem SetAt.mono {n' : Nat} (h : SetAt w g n L S) (hn : n ≤ n') : SetAt w g n' L S where
  blk := h.blk
  mA := by obtain ⟨m, hm, hr⟩ := h.mA; exact ⟨m, hm.mono hn, hr⟩
  mT := by obtain ⟨m, hm, hr⟩ := h.mT; exact ⟨m, hm.mono hn, hr⟩
  mG := by obtain ⟨m, hm, hr⟩ := h.mG; exact ⟨m, hm.mono hn, hr⟩
  row := h.row
  sep := h.sep
  ne := h.ne
  kA := by obtain ⟨m, hm, hr⟩ := h.kA; exact ⟨m, hm.mono hn, hr⟩
/-- The map of owners holds no other keys. -/
theorem SetAt.keys (h : SetAt w g n L S) {n' : Nat} {m : Lit → Option Value} (hm : GMap w 31 L.bA n' m) : ∀ kl v, m kl = some v → ∃ d, C.may d = true ∧ kl = dk d := by
  obtain ⟨m', hm', hk⟩ := h.kA
  rw [hm.uniq hm']; exact hk
theorem SetAt.cells (h : SetAt w g n L S) : w.cell? ⟨g, 0, none⟩ = some (.map (some L.bA)) ∧ w.cell? ⟨g, 1, none⟩ = some (.map (some L.bT)) ∧ w.cell? ⟨g, 2, none⟩ = some (.map (some L.bG)) := by
  simp [World.cell?, h.blk]
end
theorem z_own (w : World) : (zeroValue 70).run Try.prog w = .ok (ownV ByteArray.empty) w := by kernel_rfl
theorem z_dots (w : World) : (zeroValue 49).run Try.prog w = .ok (.slice none 0 0) w := by kernel_rfl
theorem z_vec (w : World) : (zeroValue 28).run Try.prog w = .ok C.z7.v w := by kernel_rfl
/-- A text's dots as the map tells them. -/
def OLay.val (L : OLay) (S : C.Os) (x : Tx) : Value := if S.th x = [] then .slice none 0 0 else L.rv x
section
variable {w : World} {g n : Nat} {L : OLay} {S : C.Os}
theorem SetAt.val (h : SetAt w g n L S) (x : Tx) : OwnD w (L.val S x) (S.th x) := by
  unfold OLay.val
  by_cases hx : S.th x = []
  · rw [if_pos hx, hx]; exact OwnD.nil _
  · rw [if_neg hx]; exact h.row x hx
theorem SetAt.look (h : SetAt w g n L S) {x : Tx} (hx : x.size ≤ maxLen) : (Instr.lookup 62 (.map (some L.bT)) (.string x) false).run Try.prog w = .ok (L.val S x) w := by
  obtain ⟨m, hm, hr⟩ := h.mT
  rw [hm.look str_keys Try.underlying62 (z_dots w) (str_key hx), hr x]
  unfold OLay.val
  by_cases hx : S.th x = []
  · rw [if_pos hx, if_pos hx]; rfl
  · rw [if_neg hx, if_neg hx]; rfl
theorem SetAt.look_go (h : SetAt w g n L S) {x : Tx} (hx : x.size ≤ maxLen) : (Instr.lookup 63 (.map (some L.bG)) (.string x) false).run Try.prog w = .ok (S.go x).v w := by
  obtain ⟨m, hm, hr⟩ := h.mG
  rw [hm.look str_keys Try.underlying63 (z_vec w) (str_key hx), hr x]
  by_cases hx : C.same (S.go x) C.z7 = true
  · rw [if_pos hx, (C.same_iff _ _).1 hx]; rfl
  · rw [if_neg hx]; rfl
theorem SetAt.look_ad (h : SetAt w g n L S) {d : C.Dt} (hd : C.may d = true) : (Instr.lookup 61 (.map (some L.bA)) (.agg #[.int .i64 d.1, .int .i64 d.2]) true).run Try.prog w = .ok (.tuple #[ownV ((S.ad d).getD ByteArray.empty), .bool (S.ad d).isSome]) w := by
  obtain ⟨m, hm, hr⟩ := h.mA
  rw [hm.look_ok dot_keys Try.underlying61 (z_own w) (dot_key hd), hr d hd]
  cases S.ad d <;> rfl
end
theorem long_any (x : Tx) (w : World) (hx : x.size ≤ maxLen) (z : Bool) (hz : decide (100 < x.size) = z) : Calls Try.prog 30 #[.string x] w fun e w' => e = .returned (.bool z) ∧ w' = w := by
  have h1 : decide ((100 : Int) < (x.size : Nat)) = z := by rw [← hz, decide_eq_decide]; omega
  clear hz
  unfold maxLen at hx
  go_enter Try.func30, Try.ntmps30
  go_wp2
  go_ret
  exact ⟨by first | rfl | simp, rfl⟩
theorem has_of (w : World) (g n : Nat) (L : OLay) (S : C.Os) (x : Tx) (h : SetAt w g n L S) (hx : x.size ≤ maxLen) (hl : (S.th x).length ≤ 1000000) (z : Bool) (hz : decide (0 < (S.th x).length) = z) :
    Calls Try.prog 13 #[.pointer (some ⟨g, 0, none⟩), .string x] w fun e w' => e = .returned (.bool z) ∧ w' = w := by
  obtain ⟨c0, c1, c2⟩ := h.cells
  have hk := h.look hx
  obtain ⟨q, c, hv⟩ := (h.val x).len
  rw [hv] at hk
  clear hv h
  generalize (S.th x).length = m at *
  go_enter Try.func13, Try.ntmps13
  go_wp2
  go_ret
  exact ⟨by rw [← hz]; first | rfl | simp, rfl⟩
theorem dots_of (w : World) (g n : Nat) (L : OLay) (S : C.Os) (x : Tx) (h : SetAt w g n L S) (hx : x.size ≤ maxLen) (hl : (S.th x).length ≤ 1000000) :
    Calls Try.prog 22 #[.pointer (some ⟨g, 0, none⟩), .string x] w fun e w' => (∃ v', e = .returned v' ∧ OwnD w' v' (S.th x) ∧ ∀ b, v'.ownBlock = some b → w.heap.size ≤ b) ∧ Below w.heap.size w w' := by
  obtain ⟨c0, c1, c2⟩ := h.cells
  have hk := h.look hx
  have HO : Hid (OwnD w (L.val S x) (S.th x)) := h.val x
  generalize L.val S x = v at *
  clear h
  go_enter Try.func22, Try.ntmps22
  go_wp2_with fail
  refine (cloneD_any v (S.th x) w HO.out hl).mono ?_
  rintro e w1 ⟨⟨v', rfl, h1, h2⟩, h3⟩
  have H1 : Hid _ := h1
  have H2 : Hid _ := h2
  have H3 : Hid _ := h3
  clear h1 h2 h3
  go_wp2
  go_ret
  exact ⟨⟨v', rfl, H1.out, H2.out⟩, H3.out⟩
end Go.Proofs.Ytoglhhoniojbaaa

namespace Go.Proofs.Ytoglhhoniojbaaa
open Go.RowKit Go.Lib Go.Maps
set_option linter.unusedVariables false

set_option maxRecDepth 100000 in
set_option maxHeartbeats 4000000 in
theorem none_any (d1 d2 : Int) (w : World) (z : Bool) (hz : (!C.may (d1, d2)) = z) : Calls Try.prog 34 #[.agg #[.int .i64 d1, .int .i64 d2]] w fun e w' => e = .returned (.bool z) ∧ Below w.heap.size w w' := by
  obtain ⟨er, her⟩ : ∃ er, errM (d1, d2) = er := ⟨_, rfl⟩
  have hez : (er != 0) = z := by
    rw [← hz, ← her]
    unfold errM
    cases C.may (d1, d2) <;> rfl
  have HA : Hid (∀ W g, DotsAt W g C.zeroS.c (.slice none 0 0) [] → Calls Try.prog 62 #[.pointer (some ⟨g, 0, none⟩), .agg #[.int .i64 d1, .int .i64 d2]] W fun e w' => ∃ b, e = .returned (.tuple #[.bool b, .int .i64 er]) ∧ AddRet W g (.slice none 0 0) (C.addM C.zeroS (d1, d2)) w') := fun W g hg => by
    refine (add_any W g C.zeroS (.slice none 0 0) d1 d2 hg C.zero_ok (by decide)).mono ?_
    rintro e w' ⟨rfl, hr⟩
    exact ⟨_, by rw [her], hr⟩
  clear hz her
  go_enter Try.func34, Try.ntmps34
  go_wp2_with fail
  obtain ⟨w1, hw1⟩ : ∃ w1, w1 = w.alloc (.cells #[.int .i64 d1, .int .i64 d2] 31) := ⟨_, rfl⟩
  have hb1 : Below w.heap.size w w1 := by rw [hw1]; exact below_new _ _
  have hq : w1.heap[w.heap.size]? = some (.cells #[.int .i64 d1, .int .i64 d2] 31) := by rw [hw1]; exact heap_alloc_new _ _
  rw [← hw1]
  clear hw1
  have HB1 : Hid (Below w.heap.size w w1) := hb1
  obtain ⟨z0, z1⟩ := box2_all hq
  have hne : Nonempty (NewW w1) := ⟨NewW.start w1⟩
  clear hb1 hq
  have hC : ∃ m : NewW w1, w1.drew = m.v := ⟨⟨w1.drew, (Below.refl _ w1).drew⟩, rfl⟩
  refine wp_region_held_drew (S := fun w' => ∃ m : NewW w1, w' = m.v) (by kernel_rfl) hC (fun _ => ?_)
  have hB : Below w1.heap.size w1 w1.drew := (Below.refl _ w1).drew
  generalize hW0 : w1.drew = W0 at *
  clear hW0
  refine takeList (i := 1) rfl (by kernel_rfl) (by kernel_rfl) (by kernel_rfl) (fun _ _ _ _ h => h) rfl rfl hC (fun K hK => ?_)
  go_big_quiet_op
  refine hK _ ?_
  clear hK K
  clear z0 z1
  refine callList (i := 0) rfl (by kernel_rfl) rfl (fun K hK => ?_)
  go_simp
  refine (new_any W0).mono ?_
  rintro e w2 ⟨⟨gn, rfl, hgn, hd⟩, hk⟩
  have hsz := hB.size
  replace hB := bt hB hk
  refine hK.out _ _ ⟨⟨_, hB⟩, rfl⟩ ?_
  try go_simp
  clear hK K hC hk
  have hC : ∃ m : NewW w1, w2 = m.v := ⟨⟨_, hB⟩, rfl⟩
  refine callList (i := 2) rfl (by kernel_rfl) rfl (fun K hK => ?_)
  go_simp
  refine (HA.out w2 gn hd).mono ?_
  rintro e w3 ⟨b, rfl, hr⟩
  have hB3 : Below w1.heap.size w1 w3 := hB.trans (hr.2.below hB.size fun b hb => by rcases hb with rfl | hb <;> first | omega | cases hb)
  clear hr hd
  refine hK.out _ _ ⟨⟨_, hB3⟩, rfl⟩ ?_
  try go_simp
  clear hK K hC
  have hC : ∃ m : NewW w1, w3 = m.v := ⟨⟨_, hB3⟩, rfl⟩
  refine takeList (i := 3) rfl (by kernel_rfl) (by kernel_rfl) (by kernel_rfl) (fun _ _ _ _ h => h) rfl rfl hC (fun K hK => ?_)
  go_big_quiet_op
  refine hK _ ?_
  clear hK K
  refine takeList (i := 4) rfl (by kernel_rfl) (by kernel_rfl) (by kernel_rfl) (fun _ _ _ _ h => h) rfl rfl hC (fun K hK => ?_)
  go_big_quiet_op
  refine hK _ ?_
  clear hK K
  refine takeList (i := 5) rfl (by kernel_rfl) (by kernel_rfl) (by kernel_rfl) (fun _ _ _ _ h => h) rfl rfl hC (fun K hK => ?_)
  go_big_quiet_op
  refine hK _ ?_
  clear hK K
  refine takeList (i := 6) rfl (by kernel_rfl) (by kernel_rfl) (by kernel_rfl) (fun _ _ _ _ h => h) rfl rfl hC (fun K hK => ?_)
  go_big_quiet_op
  refine hK _ ?_
  clear hK K
  refine takeList (i := 7) rfl (by kernel_rfl) (by kernel_rfl) (by kernel_rfl) (fun _ _ _ _ h => h) rfl rfl hC (fun K hK => ?_)
  go_big_quiet_op
  refine hK _ ?_
  clear hK K
  have HB3 : Hid (Below w.heap.size w w3) := bt HB1.out hB3
  clear hC hne hB hB3 hsz hgn
  refine wpAnyH_done (by kernel_rfl) ?_ _
  go_wp2
  go_ret
  exact ⟨by rw [← hez]; rfl, HB3.out⟩
set_option maxRecDepth 100000 in
set_option maxHeartbeats 4000000 in
theorem there_any (w : World) (g n : Nat) (L : OLay) (S : C.Os) (x : Tx) (d1 d2 : Int) (h : SetAt w g n L S) (hx : x.size ≤ maxLen) (z : Bool) (hz : (!C.has (S.go x) d1 d2) = z) :
    Calls Try.prog 35 #[.pointer (some ⟨g, 0, none⟩), .agg #[.int .i64 d1, .int .i64 d2], .string x] w fun e w' => e = .returned (.bool z) ∧ Below w.heap.size w w' := by
  obtain ⟨hs, hhs⟩ : ∃ hs, C.has (S.go x) d1 d2 = hs := ⟨_, rfl⟩
  have HH : Hid (∀ W, Calls Try.prog 28 #[(S.go x).v, .agg #[.int .i64 d1, .int .i64 d2]] W fun e w' => e = .returned (.bool hs) ∧ Below W.heap.size W w') := fun W => by rw [← hhs]; exact has_any _ d1 d2 W
  have hzz : (!hs) = z := by rw [← hz, hhs]
  have HS : Hid (SetAt w g n L S) := h
  have HX : Hid (x.size ≤ maxLen) := hx
  clear hz hhs h hx
  go_enter Try.func35, Try.ntmps35
  go_wp2_with fail
  obtain ⟨w1, hw1⟩ : ∃ w1, w1 = w.alloc (.cells #[.int .i64 d1, .int .i64 d2] 31) := ⟨_, rfl⟩
  have hb1 : Below w.heap.size w w1 := by rw [hw1]; exact below_new _ _
  have hq : w1.heap[w.heap.size]? = some (.cells #[.int .i64 d1, .int .i64 d2] 31) := by rw [hw1]; exact heap_alloc_new _ _
  rw [← hw1]
  clear hw1
  have HB1 : Hid (Below w.heap.size w w1) := hb1
  have HS1 : Hid (SetAt w1 g n L S) := HS.out.below hb1
  obtain ⟨z0, z1⟩ := box2_all hq
  have c2 : ∀ m : NewW w1, m.v.cell? ⟨g, 2, none⟩ = some (.map (some L.bG)) := fun m => (HS1.out.below m.h).cells.2.2
  have hne : Nonempty (NewW w1) := ⟨NewW.start w1⟩
  clear hb1 hq
  have hC : ∃ m : NewW w1, w1.drew = m.v := ⟨⟨w1.drew, (Below.refl _ w1).drew⟩, rfl⟩
  refine wp_region_held_drew (S := fun w' => ∃ m : NewW w1, w' = m.v) (by kernel_rfl) hC (fun _ => ?_)
  have hB : Below w1.heap.size w1 w1.drew := (Below.refl _ w1).drew
  generalize hW0 : w1.drew = W0 at *
  clear hW0
  refine takeList (i := 0) rfl (by kernel_rfl) (by kernel_rfl) (by kernel_rfl) (fun _ _ _ _ h => h) rfl rfl hC (fun K hK => ?_)
  go_big_quiet_op
  refine hK _ ?_
  clear hK K
  refine takeNil (i := 1) rfl rfl rfl (by kernel_rfl) (by kernel_rfl) (by kernel_rfl) (fun _ _ _ _ h => h) rfl hC ?_
  go_simp
  refine takeList (i := 2) rfl (by kernel_rfl) (by kernel_rfl) (by kernel_rfl) (fun _ _ _ _ h => h) rfl rfl hC (fun K hK => ?_)
  go_big_quiet_op
  refine hK _ ?_
  clear hK K
  refine takeList (i := 3) rfl (by kernel_rfl) (by kernel_rfl) (by kernel_rfl) (fun _ _ _ _ h => h) rfl rfl hC (fun K hK => ?_)
  go_big_quiet_op
  refine hK _ ?_
  clear hK K
  refine takeList (i := 4) rfl (by kernel_rfl) (by kernel_rfl) (by kernel_rfl) (fun _ _ _ _ h => h) rfl rfl hC (fun K hK => ?_)
  go_big_quiet_op
  refine hK _ ?_
  clear hK K
  refine takeLook (i := 5) _ _ _ _ _ _ (S.go x).v rfl rfl rfl rfl (by kernel_rfl) (by kernel_rfl) (by kernel_rfl) (fun _ _ _ _ h => h) rfl hC (fun w' ⟨m, hm⟩ => by rw [hm]; exact (HS1.out.below m.h).look_go HX.out) ?_
  go_simp
  refine takeList (i := 6) rfl (by kernel_rfl) (by kernel_rfl) (by kernel_rfl) (fun _ _ _ _ h => h) rfl rfl hC (fun K hK => ?_)
  go_big_quiet_op
  refine hK _ ?_
  clear hK K
  clear z0 z1 c2
  refine callList (i := 7) rfl (by kernel_rfl) rfl (fun K hK => ?_)
  go_simp
  refine (HH.out W0).mono ?_
  rintro e w2 ⟨rfl, hk⟩
  replace hB := bt hB hk
  refine hK.out _ _ ⟨⟨_, hB⟩, rfl⟩ ?_
  try go_simp
  clear hK K hC hk
  have hC : ∃ m : NewW w1, w2 = m.v := ⟨⟨_, hB⟩, rfl⟩
  refine takeList (i := 8) rfl (by kernel_rfl) (by kernel_rfl) (by kernel_rfl) (fun _ _ _ _ h => h) rfl rfl hC (fun K hK => ?_)
  go_big_quiet_op
  refine hK _ ?_
  clear hK K
  refine takeList (i := 9) rfl (by kernel_rfl) (by kernel_rfl) (by kernel_rfl) (fun _ _ _ _ h => h) rfl rfl hC (fun K hK => ?_)
  go_big_quiet_op
  refine hK _ ?_
  clear hK K
  have HB3 : Hid (Below w.heap.size w w2) := bt HB1.out hB
  clear hC hne hB
  refine wpAnyH_done (by kernel_rfl) ?_ _
  go_wp2
  go_ret
  exact ⟨by rw [← hzz]; first | rfl | simp, HB3.out⟩
end Go.Proofs.Ytoglhhoniojbaaa

namespace Go.Proofs.Ytoglhhoniojbaaa
open Go.RowKit Go.Lib Go.Maps
set_option linter.unusedVariables false

section
variable {w w' : World} {g n : Nat} {L : OLay} {S : C.Os}
theorem SetAt.apart (h : SetAt w g n L S) : g ≠ L.bA ∧ g ≠ L.bT ∧ g ≠ L.bG := by
  obtain ⟨m1, h1, _⟩ := h.mA
  obtain ⟨m2, h2, _⟩ := h.mT
  obtain ⟨m3, h3, _⟩ := h.mG
  obtain ⟨_, _, e1⟩ := h1.isMap
  obtain ⟨_, _, e2⟩ := h2.isMap
  obtain ⟨_, _, e3⟩ := h3.isMap
  have hb := h.blk
  refine ⟨fun e => ?_, fun e => ?_, fun e => ?_⟩
  · rw [e, e1] at hb; cases hb
  · rw [e, e2] at hb; cases hb
  · rw [e, e3] at hb; cases hb
theorem SetAt.row_apart (h : SetAt w g n L S) {x : Tx} (hx : S.th x ≠ []) {b : Nat} (hb : (L.rv x).ownBlock = some b) : b ≠ g ∧ b ≠ L.bA ∧ b ≠ L.bT ∧ b ≠ L.bG := by
  obtain ⟨m1, h1, _⟩ := h.mA
  obtain ⟨m2, h2, _⟩ := h.mT
  obtain ⟨m3, h3, _⟩ := h.mG
  obtain ⟨_, _, e1⟩ := h1.isMap
  obtain ⟨_, _, e2⟩ := h2.isMap
  obtain ⟨_, _, e3⟩ := h3.isMap
  obtain ⟨cur, hc⟩ := row_type (h.row x hx) hb
  have hbk := h.blk
  refine ⟨fun e => ?_, fun e => ?_, fun e => ?_, fun e => ?_⟩
  · rw [e, hbk] at hc; simp at hc
  · rw [e, e1] at hc; cases hc
  · rw [e, e2] at hc; cases hc
  · rw [e, e3] at hc; cases hc
/-- What a call that writes leaves. -/
def SetRet (w : World) (g : Nat) (L : OLay) (S : C.Os) (n' : Nat) (S' : C.Os) (w' : World) : Prop :=
  (∃ L', SetAt w' g n' L' S' ∧ ∀ b, L'.foot g S' b → L.foot g S b ∨ w.heap.size ≤ b) ∧ Turn w w' (L.foot g S)
theorem SetRet.same {n' : Nat} (h : SetAt w g n L S) (hn : n ≤ n') (hb : Below w.heap.size w w') : SetRet w g L S n' S w' :=
  ⟨⟨L, (h.below hb).mono hn, fun b hb => Or.inl hb⟩, Turn.of_below hb⟩
theorem SetRet.trans {w2 : World} {n1 n2 : Nat} {S1 S2 : C.Os} (h : SetRet w g L S n1 S1 w') (h2 : ∀ L1, SetAt w' g n1 L1 S1 → SetRet w' g L1 S1 n2 S2 w2) : SetRet w g L S n2 S2 w2 := by
  obtain ⟨⟨L1, h1, f1⟩, t1⟩ := h
  obtain ⟨⟨L2, h3, f2⟩, t2⟩ := h2 L1 h1
  refine ⟨⟨L2, h3, fun b hb => ?_⟩, t1.trans t2 fun x hx => f1 x hx⟩
  rcases f2 b hb with hb | hb
  · exact f1 b hb
  · exact Or.inr (Nat.le_trans t1.size hb)
theorem SetAt.setA {n' : Nat} (h : SetAt w g n L S) (hn : n ≤ n') (ad' : C.Dt → Option Tx) {m' : Lit → Option Value} (hm' : GMap w' 31 L.bA n' m') (hr' : ∀ d, C.may d = true → m' (dk d) = (ad' d).map ownV) (hk' : ∀ kl v, m' kl = some v → ∃ d, C.may d = true ∧ kl = dk d)
    (ht : Turn w w' (fun b => b = L.bA)) : SetRet w g L S n' { S with ad := ad' } w' := by
  obtain ⟨a1, a2, a3⟩ := h.apart
  have keep : ∀ b, L.foot g S b → b ≠ L.bA → w'.heap[b]? = w.heap[b]? := fun b hb hne => ht.block b (h.lt hb) hne
  refine ⟨⟨L, ⟨(keep g (Or.inl rfl) a1).trans h.blk, ⟨m', hm', hr'⟩, ?_, ?_, fun x hx => (h.row x hx).same fun b hb => keep b (Or.inr (Or.inr (Or.inr (Or.inr ⟨x, hx, hb⟩)))) (h.row_apart hx hb).2.1, h.sep, h.ne, ⟨m', hm', hk'⟩⟩, fun b hb => Or.inl hb⟩, ht.mono fun b hb => Or.inr (Or.inl hb)⟩
  · obtain ⟨m, hm, hr⟩ := h.mT
    exact ⟨m, (hm.same (keep _ (Or.inr (Or.inr (Or.inl rfl))) fun e => h.ne.1 e.symm)).mono hn, hr⟩
  · obtain ⟨m, hm, hr⟩ := h.mG
    exact ⟨m, (hm.same (keep _ (Or.inr (Or.inr (Or.inr (Or.inl rfl)))) fun e => h.ne.2.1 e.symm)).mono hn, hr⟩
theorem SetAt.setG {n' : Nat} (h : SetAt w g n L S) (hn : n ≤ n') (go' : Tx → V7) {m' : Lit → Option Value} (hm' : GMap w' 9 L.bG n' m') (hr' : ∀ x, m' (sk x) = if C.same (go' x) C.z7 = true then none else some (go' x).v)
    (ht : Turn w w' (fun b => b = L.bG)) : SetRet w g L S n' { S with go := go' } w' := by
  obtain ⟨a1, a2, a3⟩ := h.apart
  have keep : ∀ b, L.foot g S b → b ≠ L.bG → w'.heap[b]? = w.heap[b]? := fun b hb hne => ht.block b (h.lt hb) hne
  refine ⟨⟨L, ⟨(keep g (Or.inl rfl) a3).trans h.blk, ?_, ?_, ⟨m', hm', hr'⟩, fun x hx => (h.row x hx).same fun b hb => keep b (Or.inr (Or.inr (Or.inr (Or.inr ⟨x, hx, hb⟩)))) (h.row_apart hx hb).2.2.2, h.sep, h.ne, by obtain ⟨m, hm, hr⟩ := h.kA; exact ⟨m, (hm.same (keep _ (Or.inr (Or.inl rfl)) h.ne.2.1)).mono hn, hr⟩⟩, fun b hb => Or.inl hb⟩, ht.mono fun b hb => Or.inr (Or.inr (Or.inr (Or.inl hb)))⟩
  · obtain ⟨m, hm, hr⟩ := h.mA
    exact ⟨m, (hm.same (keep _ (Or.inr (Or.inl rfl)) h.ne.2.1)).mono hn, hr⟩
  · obtain ⟨m, hm, hr⟩ := h.mT
    exact ⟨m, (hm.same (keep _ (Or.inr (Or.inr (Or.inl rfl))) h.ne.2.2)).mono hn, hr⟩
theorem SetAt.setT {n' : Nat} (h : SetAt w g n L S) (hn : n ≤ n') (x : Tx) (l' : List C.Dt) (v' : Value) {m' : Lit → Option Value} (hm' : GMap w' 9 L.bT n' m') (hr' : ∀ y, m' (sk y) = if y = x then (if l' = [] then none else some v') else (if S.th y = [] then none else some (L.rv y)))
    (hrow : l' ≠ [] → OwnD w' v' l') (hv : ∀ b, l' ≠ [] → v'.ownBlock = some b → (S.th x ≠ [] ∧ (L.rv x).ownBlock = some b) ∨ w.heap.size ≤ b)
    (ht : Turn w w' (fun b => b = L.bT ∨ (S.th x ≠ [] ∧ (L.rv x).ownBlock = some b))) : SetRet w g L S n' { S with th := fun y => if y = x then l' else S.th y } w' := by
  obtain ⟨a1, a2, a3⟩ := h.apart
  have keep : ∀ b, L.foot g S b → b ≠ L.bT → (S.th x ≠ [] → (L.rv x).ownBlock ≠ some b) → w'.heap[b]? = w.heap[b]? := fun b hb hne h2 => ht.block b (h.lt hb) fun e => e.elim hne fun e => h2 e.1 e.2
  have nx : ∀ b, (b = g ∨ b = L.bA ∨ b = L.bG) → S.th x ≠ [] → (L.rv x).ownBlock ≠ some b := fun b hb hx e => by
    obtain ⟨r1, r2, r3, r4⟩ := h.row_apart hx e
    rcases hb with hb | hb | hb
    · exact r1 hb
    · exact r2 hb
    · exact r4 hb
  refine ⟨⟨{ L with rv := fun y => if y = x then v' else L.rv y }, ⟨(keep g (Or.inl rfl) a2 (nx g (Or.inl rfl))).trans h.blk, ?_, ⟨m', hm', fun y => ?_⟩, ?_, fun y hy => ?_, fun y z b hy hz e1 e2 => ?_, h.ne, by obtain ⟨m, hm, hr⟩ := h.kA; exact ⟨m, (hm.same (keep _ (Or.inr (Or.inl rfl)) h.ne.1 (nx _ (Or.inr (Or.inl rfl))))).mono hn, hr⟩⟩, fun b hb => ?_⟩, ht.mono fun b hb => ?_⟩
  · obtain ⟨m, hm, hr⟩ := h.mA
    exact ⟨m, (hm.same (keep _ (Or.inr (Or.inl rfl)) h.ne.1 (nx _ (Or.inr (Or.inl rfl))))).mono hn, hr⟩
  · simp only
    rw [hr' y]
    by_cases hy : y = x
    · simp [hy]
    · simp [hy]
  · obtain ⟨m, hm, hr⟩ := h.mG
    exact ⟨m, (hm.same (keep _ (Or.inr (Or.inr (Or.inr (Or.inl rfl)))) (fun e => h.ne.2.2 e.symm) (nx _ (Or.inr (Or.inr rfl))))).mono hn, hr⟩
  · simp only at hy ⊢
    by_cases hyx : y = x
    · rw [if_pos hyx] at hy ⊢
      rw [if_pos hyx]
      exact hrow hy
    · rw [if_neg hyx] at hy ⊢
      rw [if_neg hyx]
      exact (h.row y hy).same fun b hb => keep b (Or.inr (Or.inr (Or.inr (Or.inr ⟨y, hy, hb⟩)))) (h.row_apart hy hb).2.2.1 fun hx e => hyx (h.sep y x b hy hx hb e)
  · simp only at hy hz e1 e2
    by_cases hyx : y = x
    · by_cases hzx : z = x
      · rw [hyx, hzx]
      · exfalso
        rw [if_pos hyx] at hy e1
        rw [if_neg hzx] at hz e2
        rcases hv b hy e1 with ⟨q1, q2⟩ | q
        · exact hzx (h.sep z x b hz q1 e2 q2)
        · have := row_lt (h.row z hz) e2; omega
    · by_cases hzx : z = x
      · exfalso
        rw [if_neg hyx] at hy e1
        rw [if_pos hzx] at hz e2
        rcases hv b hz e2 with ⟨q1, q2⟩ | q
        · exact hyx (h.sep y x b hy q1 e1 q2)
        · have := row_lt (h.row y hy) e1; omega
      · rw [if_neg hyx] at hy e1
        rw [if_neg hzx] at hz e2
        exact h.sep y z b hy hz e1 e2
  · rcases hb with hb | hb | hb | hb | ⟨y, hy, hb⟩
    · exact Or.inl (Or.inl hb)
    · exact Or.inl (Or.inr (Or.inl hb))
    · exact Or.inl (Or.inr (Or.inr (Or.inl hb)))
    · exact Or.inl (Or.inr (Or.inr (Or.inr (Or.inl hb))))
    · simp only at hy hb
      by_cases hyx : y = x
      · rw [if_pos hyx] at hy hb
        rcases hv b hy hb with ⟨q1, q2⟩ | q
        · exact Or.inl (Or.inr (Or.inr (Or.inr (Or.inr ⟨x, q1, q2⟩))))
        · exact Or.inr q
      · rw [if_neg hyx] at hy hb
        exact Or.inl (Or.inr (Or.inr (Or.inr (Or.inr ⟨y, hy, hb⟩))))
  · rcases hb with hb | ⟨h1, h2⟩
    · exact Or.inr (Or.inr (Or.inl hb))
    · exact Or.inr (Or.inr (Or.inr (Or.inr ⟨x, h1, h2⟩)))
end
/-- A world in which blocks of T and new ones alone were turned. -/
structure TurnB (w : World) (T : Nat → Prop) where
  W : World
  h : Turn w W T
/-- An operation that asks a map. -/
theorem op_look {w : World} {o : Oper} {a : Act} {K' : Act → World → Prop} {Q : Exit → Act → World → Prop} (x y : Operand) (t : TypeId) (ok : Bool) (bm key v : Value) (hop : o.op = Op.lookup t x y ok) (hx : a.eval x = bm) (hy : a.eval y = key)
    (hrun : (Instr.lookup t bm key ok).run Try.prog w = .ok v w) (hK : K' (a.put o.dst v) w) : Oper.wp Try.prog o a w K' Q := by
  unfold Oper.wp
  simp [execOp, hop, hx, hy, hrun, Result.andThen]
  exact hK
end Go.Proofs.Ytoglhhoniojbaaa

namespace Go.Proofs.Ytoglhhoniojbaaa
open Go.RowKit Go.Lib Go.Maps
set_option linter.unusedVariables false

theorem tx_eq (y x : Tx) : (y.toList == x.toList) = decide (y = x) := by
  rw [ByteArray.toList_eq, ByteArray.toList_eq, Bool.eq_iff_iff, beq_iff_eq, decide_eq_true_eq]
  exact ⟨fun h => sk_inj (by unfold sk; rw [h]), fun h => by rw [h]⟩
set_option maxRecDepth 100000 in
set_option maxHeartbeats 4000000 in
theorem oadd_bad (w : World) (g : Nat) (x : Tx) (d1 d2 : Int) (hx : x.size ≤ maxLen) (hm : C.may (d1, d2) = false ∨ 100 < x.size) :
    Calls Try.prog 12 #[.pointer (some ⟨g, 0, none⟩), .agg #[.int .i64 d1, .int .i64 d2], .string x] w fun e w' => e = .returned (.int .i64 1) ∧ Below w.heap.size w w' := by
  obtain ⟨z, hz⟩ : ∃ z, (!C.may (d1, d2)) = z := ⟨_, rfl⟩
  have HN : Hid (∀ W, Calls Try.prog 34 #[.agg #[.int .i64 d1, .int .i64 d2]] W fun e w' => e = .returned (.bool z) ∧ Below W.heap.size W w') := fun W => none_any d1 d2 W z hz
  have HX : Hid (x.size ≤ maxLen) := hx
  have HL : Hid (z = false → decide (100 < x.size) = true) := fun e => by
    rcases hm with hm | hm
    · rw [hm] at hz; rw [← hz] at e; cases e
    · simpa using hm
  clear hm hz hx
  cases z with
  | true =>
    go_enter Try.func12, Try.ntmps12
    go_wp2_with fail
    refine (HN.out _).mono ?_
    rintro e w1 ⟨rfl, hb⟩
    have HB : Hid (Below w.heap.size w w1) := bt (below_new w _) hb
    clear hb
    go_wp2
    go_ret
    exact ⟨rfl, HB.out⟩
  | false =>
    go_enter Try.func12, Try.ntmps12
    go_wp2_with fail
    refine (HN.out _).mono ?_
    rintro e w1 ⟨rfl, hb⟩
    have HB : Hid (Below w.heap.size w w1) := bt (below_new w _) hb
    clear hb
    go_wp2_with fail
    refine (long_any x w1 HX.out true (HL.out (by first | rfl | trivial))).mono ?_
    rintro e w2 ⟨rfl, hw⟩
    subst hw
    go_wp2
    go_ret
    exact ⟨rfl, HB.out⟩
set_option maxRecDepth 100000 in
set_option maxHeartbeats 4000000 in
theorem oadd_there (w : World) (g n : Nat) (L : OLay) (S : C.Os) (x y : Tx) (d1 d2 : Int) (h : SetAt w g n L S) (hm : C.may (d1, d2) = true) (hx : x.size ≤ 100) (had : S.ad (d1, d2) = some y) (er : Int) (her : er = if y = x then 0 else 5) :
    Calls Try.prog 12 #[.pointer (some ⟨g, 0, none⟩), .agg #[.int .i64 d1, .int .i64 d2], .string x] w fun e w' => e = .returned (.int .i64 er) ∧ Below w.heap.size w w' := by
  have HN : Hid (∀ W, Calls Try.prog 34 #[.agg #[.int .i64 d1, .int .i64 d2]] W fun e w' => e = .returned (.bool false) ∧ Below W.heap.size W w') := fun W => none_any d1 d2 W false (by rw [hm]; rfl)
  have HX : Hid (x.size ≤ maxLen) := Nat.le_trans hx (by decide)
  have HXL : Hid (decide (100 < x.size) = false) := by show _ = _; simpa using hx
  have HS : Hid (SetAt w g n L S) := h
  have HM : Hid (C.may (d1, d2) = true) := hm
  have HAD : Hid (S.ad (d1, d2) = some y) := had
  have HER : Hid (er = if y = x then 0 else 5) := her
  clear her had
  clear h hm hx
  go_enter Try.func12, Try.ntmps12
  go_wp2_with fail
  refine (HN.out _).mono ?_
  rintro e w1 ⟨rfl, hb⟩
  have q1 := keep_on hb (heap_alloc_new w (.cells #[.int .i64 d1, .int .i64 d2] 31))
  have HB1 : Hid (Below w.heap.size w w1) := bt (below_new w _) hb
  have HQ1 : Hid (w1.heap[w.heap.size]? = some (.cells #[.int .i64 d1, .int .i64 d2] 31)) := q1
  clear hb q1
  go_wp2_with fail
  refine (long_any x w1 HX.out false HXL.out).mono ?_
  rintro e w1' ⟨rfl, hw⟩
  subst hw
  have HS1 : Hid (SetAt w1' g n L S) := HS.out.below HB1.out
  obtain ⟨gd, hgd⟩ : ∃ gd, w.heap.size = gd := ⟨_, rfl⟩
  rw [hgd] at HQ1 ⊢
  have HGE : Hid (w.heap.size = gd) := hgd
  clear hgd
  obtain ⟨z0, z1⟩ := box2_all HQ1.out
  have c0 : ∀ m : NewW w1', m.v.cell? ⟨g, 0, none⟩ = some (.map (some L.bA)) := fun m => (HS1.out.below m.h).cells.1
  have hne : Nonempty (NewW w1') := ⟨NewW.start w1'⟩
  go_wp2_with fail
  have hC : ∃ m : NewW w1', w1'.drew = m.v := ⟨⟨w1'.drew, (Below.refl _ w1').drew⟩, rfl⟩
  refine wp_region_held_drew (S := fun w' => ∃ m : NewW w1', w' = m.v) (by kernel_rfl) hC (fun _ => ?_)
  have hB : Below w1'.heap.size w1' w1'.drew := (Below.refl _ w1').drew
  generalize hW0 : w1'.drew = W0 at *
  clear hW0
  refine takeList (i := 0) rfl (by kernel_rfl) (by kernel_rfl) (by kernel_rfl) (fun _ _ _ _ h => h) rfl rfl hC (fun K hK => ?_)
  go_big_quiet_op
  refine hK _ ?_
  clear hK K
  refine takeNil (i := 1) rfl rfl rfl (by kernel_rfl) (by kernel_rfl) (by kernel_rfl) (fun _ _ _ _ h => h) rfl hC ?_
  go_simp
  refine takeList (i := 2) rfl (by kernel_rfl) (by kernel_rfl) (by kernel_rfl) (fun _ _ _ _ h => h) rfl rfl hC (fun K hK => ?_)
  go_big_quiet_op
  refine hK _ ?_
  clear hK K
  refine takeList (i := 3) rfl (by kernel_rfl) (by kernel_rfl) (by kernel_rfl) (fun _ _ _ _ h => h) rfl rfl hC (fun K hK => ?_)
  go_big_quiet_op
  refine hK _ ?_
  clear hK K
  refine takeList (i := 4) rfl (by kernel_rfl) (by kernel_rfl) (by kernel_rfl) (fun _ _ _ _ h => h) rfl rfl hC (fun K hK => ?_)
  go_big_quiet_op
  refine hK _ ?_
  clear hK K
  refine takeLook (i := 5) _ _ _ _ (.map (some L.bA)) (.agg #[.int .i64 d1, .int .i64 d2]) (.tuple #[.agg #[.string y], .bool true]) rfl rfl rfl rfl (by kernel_rfl) (by kernel_rfl) (by kernel_rfl) (fun _ _ _ _ h => h) rfl hC (fun w' ⟨m, hm⟩ => by rw [hm, (HS1.out.below m.h).look_ad (d := (d1, d2)) HM.out]; simp only [HAD.out]; rfl) ?_
  go_simp
  refine takeList (i := 6) rfl (by kernel_rfl) (by kernel_rfl) (by kernel_rfl) (fun _ _ _ _ h => h) rfl rfl hC (fun K hK => ?_)
  go_big_quiet_op
  refine hK _ ?_
  clear hK K
  refine takeList (i := 7) rfl (by kernel_rfl) (by kernel_rfl) (by kernel_rfl) (fun _ _ _ _ h => h) rfl rfl hC (fun K hK => ?_)
  go_big_quiet_op
  refine hK _ ?_
  clear hK K
  refine takeList (i := 8) rfl (by kernel_rfl) (by kernel_rfl) (by kernel_rfl) (fun _ _ _ _ h => h) rfl rfl hC (fun K hK => ?_)
  go_big_quiet_op
  refine hK _ ?_
  clear hK K
  clear z0 z1 c0
  refine callList (i := 9) rfl (by kernel_rfl) rfl (fun K hK => ?_)
  go_simp
  have hal := below_new W0 (.cells #[.string ⟨#[]⟩] 70)
  have ho := heap_alloc_new W0 (.cells #[.string ⟨#[]⟩] 70)
  have hB0 := hB.size
  replace hB := bt hB hal
  refine hK.out _ _ ⟨⟨_, hB⟩, rfl⟩ ?_
  try go_simp
  generalize World.alloc W0 (.cells #[.string ⟨#[]⟩] 70) = W2 at *
  have hgo := hB0
  generalize W0.heap.size = go at *
  clear hK K hC hal
  have hC : ∃ m : NewW w1', W2 = m.v := ⟨⟨_, hB⟩, rfl⟩
  have k0 : W2.cell? ⟨go, 0, none⟩ = some (.string ⟨#[]⟩) := by simp [World.cell?, ho]
  have f0 : W2.frozen? ⟨go, 0, none⟩ = false := by simp [World.frozen?, ho]
  refine callList (i := 10) rfl (by kernel_rfl) rfl (fun K hK => ?_)
  go_simp
  have hB5 : Below w1'.heap.size w1' (W2.setCell ⟨go, 0, none⟩ (.string y)) := Below.setCell hB (by omega) _
  have ho5 : (W2.setCell ⟨go, 0, none⟩ (.string y)).heap[go]? = some (.cells #[.string y] 70) := set_block ho
  refine hK.out _ _ ⟨⟨_, hB5⟩, rfl⟩ ?_
  try go_simp
  generalize World.setCell W2 _ _ = W5 at *
  clear hK K hC k0 f0 ho hB
  have hC : ∃ m : NewW w1', W5 = m.v := ⟨⟨_, hB5⟩, rfl⟩
  refine takeList (i := 11) rfl (by kernel_rfl) (by kernel_rfl) (by kernel_rfl) (fun _ _ _ _ h => h) rfl rfl hC (fun K hK => ?_)
  go_big_quiet_op
  refine hK _ ?_
  clear hK K
  have HB5 : Hid (Below w.heap.size w W5) := bt HB1.out hB5
  have HO5 : Hid (W5.heap[go]? = some (.cells #[.string y] 70)) := ho5
  have HW5 : Hid (Below w1'.heap.size w1' W5) := hB5
  clear hC hne hB5 ho5
  refine wpAnyH_done (by kernel_rfl) ?_ _
  have k0 : W5.cell? ⟨go, 0, none⟩ = some (.string y) := by simp [World.cell?, HO5.out]
  obtain ⟨qb, hq⟩ : ∃ qb, (y.toList == x.toList) = qb := ⟨_, rfl⟩
  have HE : Hid (er = if qb = true then 0 else 5) := by show er = _; rw [HER.out, ← hq, tx_eq]; simp
  clear HER
  cases qb with
  | true =>
    obtain rfl : er = 0 := HE.out
    go_wp2
    go_ret
    exact ⟨rfl, HB5.out⟩
  | false =>
    obtain rfl : er = 5 := HE.out
    go_wp2
    go_ret
    exact ⟨rfl, HB5.out⟩
end Go.Proofs.Ytoglhhoniojbaaa

namespace Go.Proofs.Ytoglhhoniojbaaa
open Go.RowKit Go.Lib Go.Maps
set_option linter.unusedVariables false

theorem osearch_any (v : Value) (l : List C.Dt) (d : C.Dt) (w : World) (h : OwnD w v l) (hu : C.Up l) (hl : l.length ≤ 1000000) :
    Calls Try.prog 36 #[v, .agg #[.int .i64 d.1, .int .i64 d.2], .func (.func 37) #[] #[]] w fun e w' => e = .returned (.tuple #[.int .i64 (C.place d l : Nat), .bool (l.contains d)]) ∧ Below w.heap.size w w' := by
  rcases h.shape with ⟨h1, rfl⟩ | ⟨g, cap, cur, rfl, _⟩
  · subst h1
    exact osearch_nil d w
  · exact osearch_some g cap l d w h hu hl
/-- With a dot's text. -/
def C.Os.addA (S : C.Os) (d : C.Dt) (x : Tx) : C.Os := { S with ad := fun e => if e = d then some x else S.ad e }
/-- With a text's dots. -/
def C.Os.addT (S : C.Os) (x : Tx) (l : List C.Dt) : C.Os := { S with th := fun y => if y = x then l else S.th y }
theorem setA_of {w w' : World} {g n : Nat} {L : OLay} {S : C.Os} (h : SetAt w g n L S) {m : Lit → Option Value} (hr : ∀ d, C.may d = true → m (dk d) = (S.ad d).map ownV) (hk : ∀ kl v, m kl = some v → ∃ d, C.may d = true ∧ kl = dk d) {d : C.Dt} (hd : C.may d = true) (x : Tx)
    (hm : GMap w' 31 L.bA (n + 1) (gput m (dk d) (some (ownV x)))) (ht : Turn w w' (fun b => b = L.bA)) : SetRet w g L S (n + 1) (S.addA d x) w' :=
  h.setA (Nat.le_succ n) _ hm (fun e he => by
    by_cases hed : e = d
    · subst hed; rw [gput_same]; simp
    · rw [gput_other _ _ fun k => hed (dk_inj he hd k), hr e he]; simp [hed]) (fun kl v e => by
    by_cases hkl : kl = dk d
    · exact ⟨d, hd, hkl⟩
    · rw [gput_other _ _ hkl] at e; exact hk kl v e) ht
theorem setT_of {w w1 w2 w' : World} {g n : Nat} {L : OLay} {S : C.Os} (h : SetAt w g n L S) {m : Lit → Option Value} (hr : ∀ y, m (sk y) = if S.th y = [] then none else some (L.rv y)) (x : Tx) (l' : List C.Dt) (v' : Value) (hl' : l' ≠ [])
    (hm : GMap w' 9 L.bT (n + 1) (gput m (sk x) (some v'))) (hb : Below w.heap.size w w1) (hrow : OwnD w2 v' l') (hg : w1.grownBy w2 (L.val S x).ownBlock) (hv : v'.ownBlock = (L.val S x).ownBlock ∨ v'.ownBlock = some w1.heap.size) (hg2 : w2.grownBy w' (some L.bT)) : SetRet w g L S (n + 1) (S.addT x l') w' := by
  have hval : ∀ b, (L.val S x).ownBlock = some b → S.th x ≠ [] ∧ (L.rv x).ownBlock = some b := fun b hb => by
    unfold OLay.val at hb
    by_cases hx : S.th x = []
    · rw [if_pos hx] at hb; cases hb
    · rw [if_neg hx] at hb; exact ⟨hx, hb⟩
  have hbT : ∀ b, v'.ownBlock = some b → b ≠ L.bT := fun b hb' e => by
    rcases hv with hv | hv
    · obtain ⟨h1, h2⟩ := hval b (hv.symm.trans hb')
      exact (h.row_apart h1 h2).2.2.1 e
    · rw [hv] at hb'
      have h3 := Option.some.inj hb'
      have h4 := h.lt (b := L.bT) (Or.inr (Or.inr (Or.inl rfl)))
      have h5 := hb.size
      omega
  refine h.setT (Nat.le_succ n) x l' v' hm (fun y => ?_) (fun _ => hrow.same fun b hb' => ?_) (fun b _ hb' => ?_) ?_
  · by_cases hyx : y = x
    · subst hyx; rw [gput_same, if_pos rfl, if_neg hl']
    · rw [gput_other _ _ fun k => hyx (sk_inj k), hr y, if_neg hyx]
  · exact hg2.block b (row_lt hrow hb') fun e => hbT b hb' (by cases e; rfl)
  · rcases hv with hv | hv
    · exact Or.inl (hval b (hv.symm.trans hb'))
    · rw [hv] at hb'
      have h3 := Option.some.inj hb'
      have h5 := hb.size
      exact Or.inr (by omega)
  · have t1 := (Turn.of_below (S := fun b => b = L.bT ∨ (S.th x ≠ [] ∧ (L.rv x).ownBlock = some b)) hb).trans (Turn.of_grown (S := fun b => (L.val S x).ownBlock = some b) hg fun b hb => hb) fun b hb => Or.inl (Or.inr (hval b hb))
    exact t1.trans (Turn.of_grown (S := fun b => b = L.bT) hg2 fun b hb => (Option.some.inj hb).symm) fun b hb => Or.inl (Or.inl hb)
theorem SetRet.after {w w1 w' : World} {g n n' : Nat} {L : OLay} {S S' : C.Os} (hS : SetAt w g n L S) (hb : Below w.heap.size w w1) (h : SetRet w1 g L S n' S' w') : SetRet w g L S n' S' w' := by
  obtain ⟨⟨L', h1, f1⟩, t1⟩ := h
  exact ⟨⟨L', h1, fun b hb' => (f1 b hb').imp id fun h => Nat.le_trans hb.size h⟩, (Turn.of_below hb).trans t1 fun x hx => Or.inl hx⟩
theorem SetRet.step {w w1 w2 : World} {g n2 : Nat} {L L1 : OLay} {S S1 S2 : C.Os} (f1 : ∀ b, L1.foot g S1 b → L.foot g S b ∨ w.heap.size ≤ b) (t1 : Turn w w1 (L.foot g S)) (h2 : SetRet w1 g L1 S1 n2 S2 w2) : SetRet w g L S n2 S2 w2 := by
  obtain ⟨⟨L2, h3, f2⟩, t2⟩ := h2
  refine ⟨⟨L2, h3, fun b hb => ?_⟩, t1.trans t2 fun x hx => f1 x hx⟩
  rcases f2 b hb with hb | hb
  · exact f1 b hb
  · exact Or.inr (Nat.le_trans t1.size hb)
set_option maxRecDepth 100000 in
set_option maxHeartbeats 8000000 in
theorem oadd_new (w : World) (g n : Nat) (L : OLay) (S : C.Os) (x : Tx) (d1 d2 : Int) (h : SetAt w g n L S) (hn : n + 2 < maxLen) (hm : C.may (d1, d2) = true) (hx : x.size ≤ 100) (had : S.ad (d1, d2) = none) (hu : C.Up (S.th x)) (hni : ¬ (d1, d2) ∈ S.th x) (hl : (S.th x).length ≤ 100000) :
    Calls Try.prog 12 #[.pointer (some ⟨g, 0, none⟩), .agg #[.int .i64 d1, .int .i64 d2], .string x] w fun e w' => e = .returned (.int .i64 0) ∧ SetRet w g L S (n + 2) (if C.has (S.go x) d1 d2 = true then S.addA (d1, d2) x else (S.addA (d1, d2) x).addT x (C.insL (d1, d2) (S.th x))) w' := by
  have HN : Hid (∀ W, Calls Try.prog 34 #[.agg #[.int .i64 d1, .int .i64 d2]] W fun e w' => e = .returned (.bool false) ∧ Below W.heap.size W w') := fun W => none_any d1 d2 W false (by rw [hm]; rfl)
  have HX : Hid (x.size ≤ maxLen) := Nat.le_trans hx (by decide)
  have HXL : Hid (decide (100 < x.size) = false) := by show _ = _; simpa using hx
  have HS : Hid (SetAt w g n L S) := h
  have HM : Hid (C.may (d1, d2) = true) := hm
  have HAD : Hid (S.ad (d1, d2) = none) := had
  have HUP : Hid (C.Up (S.th x)) := hu
  have HNI : Hid (¬ (d1, d2) ∈ S.th x) := hni
  have HLL : Hid ((S.th x).length ≤ 100000) := hl
  have HNN : Hid (n + 2 < maxLen) := hn
  obtain ⟨zh, hzh⟩ : ∃ zh, C.has (S.go x) d1 d2 = zh := ⟨_, rfl⟩
  have HZH : Hid (C.has (S.go x) d1 d2 = zh) := hzh
  rw [hzh]
  clear had hu hni hl hn hzh
  clear h hm hx
  go_enter Try.func12, Try.ntmps12
  go_wp2_with fail
  refine (HN.out _).mono ?_
  rintro e w1 ⟨rfl, hb⟩
  have q1 := keep_on hb (heap_alloc_new w (.cells #[.int .i64 d1, .int .i64 d2] 31))
  have HB1 : Hid (Below w.heap.size w w1) := bt (below_new w _) hb
  have HQ1 : Hid (w1.heap[w.heap.size]? = some (.cells #[.int .i64 d1, .int .i64 d2] 31)) := q1
  clear hb q1
  go_wp2_with fail
  refine (long_any x w1 HX.out false HXL.out).mono ?_
  rintro e w1' ⟨rfl, hw⟩
  subst hw
  have HS1 : Hid (SetAt w1' g n L S) := HS.out.below HB1.out
  obtain ⟨gd, hgd⟩ : ∃ gd, w.heap.size = gd := ⟨_, rfl⟩
  rw [hgd] at HQ1 ⊢
  have HGE : Hid (w.heap.size = gd) := hgd
  clear hgd
  obtain ⟨z0, z1⟩ := box2_all HQ1.out
  have c0 : ∀ m : NewW w1', m.v.cell? ⟨g, 0, none⟩ = some (.map (some L.bA)) := fun m => (HS1.out.below m.h).cells.1
  have hne : Nonempty (NewW w1') := ⟨NewW.start w1'⟩
  go_wp2_with fail
  have hC : ∃ m : NewW w1', w1'.drew = m.v := ⟨⟨w1'.drew, (Below.refl _ w1').drew⟩, rfl⟩
  refine wp_region_held_drew (S := fun w' => ∃ m : NewW w1', w' = m.v) (by kernel_rfl) hC (fun _ => ?_)
  have hB : Below w1'.heap.size w1' w1'.drew := (Below.refl _ w1').drew
  generalize hW0 : w1'.drew = W0 at *
  clear hW0
  refine takeList (i := 0) rfl (by kernel_rfl) (by kernel_rfl) (by kernel_rfl) (fun _ _ _ _ h => h) rfl rfl hC (fun K hK => ?_)
  go_big_quiet_op
  refine hK _ ?_
  clear hK K
  refine takeNil (i := 1) rfl rfl rfl (by kernel_rfl) (by kernel_rfl) (by kernel_rfl) (fun _ _ _ _ h => h) rfl hC ?_
  go_simp
  refine takeList (i := 2) rfl (by kernel_rfl) (by kernel_rfl) (by kernel_rfl) (fun _ _ _ _ h => h) rfl rfl hC (fun K hK => ?_)
  go_big_quiet_op
  refine hK _ ?_
  clear hK K
  refine takeList (i := 3) rfl (by kernel_rfl) (by kernel_rfl) (by kernel_rfl) (fun _ _ _ _ h => h) rfl rfl hC (fun K hK => ?_)
  go_big_quiet_op
  refine hK _ ?_
  clear hK K
  refine takeList (i := 4) rfl (by kernel_rfl) (by kernel_rfl) (by kernel_rfl) (fun _ _ _ _ h => h) rfl rfl hC (fun K hK => ?_)
  go_big_quiet_op
  refine hK _ ?_
  clear hK K
  refine takeLook (i := 5) _ _ _ _ (.map (some L.bA)) (.agg #[.int .i64 d1, .int .i64 d2]) (.tuple #[.agg #[.string ⟨#[]⟩], .bool false]) rfl rfl rfl rfl (by kernel_rfl) (by kernel_rfl) (by kernel_rfl) (fun _ _ _ _ h => h) rfl hC (fun w' ⟨m, hm⟩ => by rw [hm, (HS1.out.below m.h).look_ad (d := (d1, d2)) HM.out]; simp only [HAD.out]; rfl) ?_
  go_simp
  refine takeList (i := 6) rfl (by kernel_rfl) (by kernel_rfl) (by kernel_rfl) (fun _ _ _ _ h => h) rfl rfl hC (fun K hK => ?_)
  go_big_quiet_op
  refine hK _ ?_
  clear hK K
  refine takeList (i := 7) rfl (by kernel_rfl) (by kernel_rfl) (by kernel_rfl) (fun _ _ _ _ h => h) rfl rfl hC (fun K hK => ?_)
  go_big_quiet_op
  refine hK _ ?_
  clear hK K
  refine takeList (i := 8) rfl (by kernel_rfl) (by kernel_rfl) (by kernel_rfl) (fun _ _ _ _ h => h) rfl rfl hC (fun K hK => ?_)
  go_big_quiet_op
  refine hK _ ?_
  clear hK K
  clear z0 z1 c0
  refine callList (i := 9) rfl (by kernel_rfl) rfl (fun K hK => ?_)
  go_simp
  have hal := below_new W0 (.cells #[.string ⟨#[]⟩] 70)
  have ho := heap_alloc_new W0 (.cells #[.string ⟨#[]⟩] 70)
  have hB0 := hB.size
  replace hB := bt hB hal
  refine hK.out _ _ ⟨⟨_, hB⟩, rfl⟩ ?_
  try go_simp
  generalize World.alloc W0 (.cells #[.string ⟨#[]⟩] 70) = W2 at *
  have hgo := hB0
  generalize W0.heap.size = go at *
  clear hK K hC hal
  have hC : ∃ m : NewW w1', W2 = m.v := ⟨⟨_, hB⟩, rfl⟩
  have k0 : W2.cell? ⟨go, 0, none⟩ = some (.string ⟨#[]⟩) := by simp [World.cell?, ho]
  have f0 : W2.frozen? ⟨go, 0, none⟩ = false := by simp [World.frozen?, ho]
  refine callList (i := 10) rfl (by kernel_rfl) rfl (fun K hK => ?_)
  go_simp
  have hB5 : Below w1'.heap.size w1' (W2.setCell ⟨go, 0, none⟩ (.string ⟨#[]⟩)) := Below.setCell hB (by omega) _
  have ho5 : (W2.setCell ⟨go, 0, none⟩ (.string ⟨#[]⟩)).heap[go]? = some (.cells #[.string ⟨#[]⟩] 70) := set_block ho
  refine hK.out _ _ ⟨⟨_, hB5⟩, rfl⟩ ?_
  try go_simp
  generalize World.setCell W2 _ _ = W5 at *
  clear hK K hC k0 f0 ho hB
  have hC : ∃ m : NewW w1', W5 = m.v := ⟨⟨_, hB5⟩, rfl⟩
  refine takeList (i := 11) rfl (by kernel_rfl) (by kernel_rfl) (by kernel_rfl) (fun _ _ _ _ h => h) rfl rfl hC (fun K hK => ?_)
  go_big_quiet_op
  refine hK _ ?_
  clear hK K
  have HB5 : Hid (Below w.heap.size w W5) := bt HB1.out hB5
  have HO5 : Hid (W5.heap[go]? = some (.cells #[.string ⟨#[]⟩] 70)) := ho5
  have HW5 : Hid (Below w1'.heap.size w1' W5) := hB5
  clear hC hne hB5 ho5
  refine wpAnyH_done (by kernel_rfl) ?_ _
  have HS5 : Hid (SetAt W5 g n L S) := HS1.out.below HW5.out
  have HQ5 : Hid (W5.heap[gd]? = some (.cells #[.int .i64 d1, .int .i64 d2] 31)) := keep_on HW5.out HQ1.out
  have HGD : Hid (∀ b, L.foot g S b → b < gd) := fun b hb => by have h1 := HS.out.lt hb; have h2 := HGE.out; omega
  clear HO5 hB0 hgo
  have hne : Nonempty (TurnB W5 (fun b => b = L.bA)) := ⟨⟨W5, Turn.refl _ _⟩⟩
  have c0 : ∀ m : TurnB W5 (fun b => b = L.bA), m.W.cell? ⟨g, 0, none⟩ = some (.map (some L.bA)) := fun m => by
    have e := m.h.block g (HS5.out.lt (Or.inl rfl)) HS5.out.apart.1
    exact (World.cell?_of_block (a := ⟨g, 0, none⟩) e).trans HS5.out.cells.1
  have hqm : ∀ m : TurnB W5 (fun b => b = L.bA), m.W.heap[gd]? = some (.cells #[.int .i64 d1, .int .i64 d2] 31) := fun m => by
    rw [m.h.block gd (Array.getElem?_eq_some_iff.1 HQ5.out).1 fun e => by have := HGD.out L.bA (Or.inr (Or.inl rfl)); omega]; exact HQ5.out
  have z0 : ∀ m : TurnB W5 (fun b => b = L.bA), m.W.cell? ⟨gd, 0, none⟩ = some (.int .i64 d1) := fun m => (box2 (hqm m)).1
  have z1 : ∀ m : TurnB W5 (fun b => b = L.bA), m.W.cell? ⟨gd, 1, none⟩ = some (.int .i64 d2) := fun m => (box2 (hqm m)).2
  go_wp2_with fail
  have hC : ∃ m : TurnB W5 (fun b => b = L.bA), W5.drew = m.W := ⟨⟨W5.drew, (Turn.refl _ _).drew⟩, rfl⟩
  refine wp_region_held_drew (S := fun w' => ∃ m : TurnB W5 (fun b => b = L.bA), w' = m.W) (by kernel_rfl) hC (fun _ => ?_)
  have hS0 : SetAt W5.drew g n L S := HS5.out.below ((Below.refl _ W5).drew)
  have hT0 : Turn W5 W5.drew (fun b => b = L.bA) := (Turn.refl _ _).drew
  have hB0 : Below W5.heap.size W5 W5.drew := (Below.refl _ W5).drew
  generalize hW0 : W5.drew = W6 at *
  clear hW0
  refine takeList (i := 0) rfl (by kernel_rfl) (by kernel_rfl) (by kernel_rfl) (fun _ _ _ _ h => h) rfl rfl hC (fun K hK => ?_)
  go_big_quiet_op
  refine hK _ ?_
  clear hK K
  refine takeNil (i := 1) rfl rfl rfl (by kernel_rfl) (by kernel_rfl) (by kernel_rfl) (fun _ _ _ _ h => h) rfl hC ?_
  go_simp
  refine takeList (i := 2) rfl (by kernel_rfl) (by kernel_rfl) (by kernel_rfl) (fun _ _ _ _ h => h) rfl rfl hC (fun K hK => ?_)
  go_big_quiet_op
  refine hK _ ?_
  clear hK K
  refine takeList (i := 3) rfl (by kernel_rfl) (by kernel_rfl) (by kernel_rfl) (fun _ _ _ _ h => h) rfl rfl hC (fun K hK => ?_)
  go_big_quiet_op
  refine hK _ ?_
  clear hK K
  refine takeList (i := 4) rfl (by kernel_rfl) (by kernel_rfl) (by kernel_rfl) (fun _ _ _ _ h => h) rfl rfl hC (fun K hK => ?_)
  go_big_quiet_op
  refine hK _ ?_
  clear hK K
  refine takeList (i := 5) rfl (by kernel_rfl) (by kernel_rfl) (by kernel_rfl) (fun _ _ _ _ h => h) rfl rfl hC (fun K hK => ?_)
  go_big_quiet_op
  refine hK _ ?_
  clear hK K
  refine takeList (i := 6) rfl (by kernel_rfl) (by kernel_rfl) (by kernel_rfl) (fun _ _ _ _ h => h) rfl rfl hC (fun K hK => ?_)
  go_big_quiet_op
  refine hK _ ?_
  clear hK K
  clear z0 z1 c0 hqm
  obtain ⟨mA, hmA, hrA⟩ := hS0.mA
  have hkA := hS0.keys hmA
  refine callList (i := 7) rfl (by kernel_rfl) rfl (fun K hK => ?_)
  refine op_store _ _ _ _ rfl Try.underlying61 dot_keys hmA (by have := HNN.out; omega) (key := .agg #[.int .i64 d1, .int .i64 d2]) (c := ownV x) (dot_key (d := (d1, d2)) HM.out) rfl rfl rfl ?_
  intro W8 hm8 hg8
  go_simp
  have HT8 : Hid (Turn W5 W8 (fun b => b = L.bA)) := hT0.trans (Turn.of_grown (S := fun b => b = L.bA) hg8 fun b hb => (Option.some.inj hb).symm) fun b hb => Or.inl hb
  have HR8 : Hid (SetRet W6 g L S (n + 1) (S.addA (d1, d2) x) W8) := setA_of hS0 hrA hkA HM.out x hm8 (Turn.of_grown (S := fun b => b = L.bA) hg8 fun b hb => (Option.some.inj hb).symm)
  refine hK.out _ _ ⟨⟨_, HT8.out⟩, rfl⟩ ?_
  clear hK K hC hm8 hg8 hmA hrA hne
  refine wpAnyH_done (by kernel_rfl) ?_ _
  have HB6 : Hid (Below w.heap.size w W6) := bt HB5.out hB0
  obtain ⟨⟨L1, hS8, hF8⟩, hT8⟩ := HR8.out
  have HS8 : Hid (SetAt W8 g (n + 1) L1 (S.addA (d1, d2) x)) := hS8
  have HF8 : Hid (∀ b, L1.foot g (S.addA (d1, d2) x) b → L.foot g S b ∨ w.heap.size ≤ b) := fun b hb => (hF8 b hb).imp id fun h => Nat.le_trans HB6.out.size h
  have HT8w : Hid (Turn w W8 (L.foot g S)) := (Turn.of_below HB6.out).trans hT8 fun b hb => Or.inl hb
  have HG8 : Hid (∀ b, L1.foot g (S.addA (d1, d2) x) b → b ≠ gd) := fun b hb e => by
    rcases hF8 b hb with h1 | h1
    · have := HGD.out b h1; omega
    · have h2 := (Array.getElem?_eq_some_iff.1 HQ5.out).1
      have h3 := hB0.size
      omega
  have hq8 : W8.heap[gd]? = some (.cells #[.int .i64 d1, .int .i64 d2] 31) := by
    rw [HT8.out.block gd (Array.getElem?_eq_some_iff.1 HQ5.out).1 fun e => by have := HGD.out L.bA (Or.inr (Or.inl rfl)); omega]; exact HQ5.out
  have HQ8 : Hid (W8.heap[gd]? = some (.cells #[.int .i64 d1, .int .i64 d2] 31)) := hq8
  obtain ⟨y0, y1⟩ := box2 hq8
  clear hS8 hF8 hT8 hq8 hB0 hT0 hS0
  go_wp2_with fail
  refine (there_any W8 g (n + 1) L1 (S.addA (d1, d2) x) x d1 d2 HS8.out HX.out (!zh) (by rw [← HZH.out]; rfl)).mono ?_
  rintro e w9 ⟨rfl, hb9⟩
  have HB9 : Hid (Below W8.heap.size W8 w9) := hb9
  clear y0 y1 hb9
  cases zh with
  | true =>
    go_wp2
    go_ret
    refine ⟨rfl, ?_⟩
    try rw [if_pos rfl]
    exact SetRet.step HF8.out HT8w.out (SetRet.same HS8.out (Nat.le_succ _) HB9.out)
  | false =>
    have HS9 : Hid (SetAt w9 g (n + 1) L1 (S.addA (d1, d2) x)) := HS8.out.below HB9.out
    have HQ9 : Hid (w9.heap[gd]? = some (.cells #[.int .i64 d1, .int .i64 d2] 31)) := keep_on HB9.out HQ8.out
    obtain ⟨v, hv⟩ : ∃ v, L1.val (S.addA (d1, d2) x) x = v := ⟨_, rfl⟩
    have HV : Hid (L1.val (S.addA (d1, d2) x) x = v) := hv
    have HOV : Hid (∀ W, SetAt W g (n + 1) L1 (S.addA (d1, d2) x) → OwnD W v (S.th x)) := fun W hW => by have := hW.val x; rw [hv] at this; exact this
    have HLK : Hid (∀ W, SetAt W g (n + 1) L1 (S.addA (d1, d2) x) → (Instr.lookup 62 (.map (some L1.bT)) (.string x) false).run Try.prog W = .ok v W) := fun W hW => by have := hW.look HX.out; rw [hv] at this; exact this
    clear hv
    obtain ⟨z0, z1⟩ := box2_all HQ9.out
    have c1 : ∀ m : NewW w9, m.v.cell? ⟨g, 1, none⟩ = some (.map (some L1.bT)) := fun m => (HS9.out.below m.h).cells.2.1
    have hne : Nonempty (NewW w9) := ⟨NewW.start w9⟩
    go_wp2_with fail
    have hC : ∃ m : NewW w9, w9.drew = m.v := ⟨⟨w9.drew, (Below.refl _ w9).drew⟩, rfl⟩
    refine wp_region_held_drew (S := fun w' => ∃ m : NewW w9, w' = m.v) (by kernel_rfl) hC (fun _ => ?_)
    have hB : Below w9.heap.size w9 w9.drew := (Below.refl _ w9).drew
    generalize hW0 : w9.drew = W0 at *
    clear hW0
    refine takeList (i := 0) rfl (by kernel_rfl) (by kernel_rfl) (by kernel_rfl) (fun _ _ _ _ h => h) rfl rfl hC (fun K hK => ?_)
    go_big_quiet_op
    refine hK _ ?_
    clear hK K
    refine takeNil (i := 1) rfl rfl rfl (by kernel_rfl) (by kernel_rfl) (by kernel_rfl) (fun _ _ _ _ h => h) rfl hC ?_
    go_simp
    refine takeList (i := 2) rfl (by kernel_rfl) (by kernel_rfl) (by kernel_rfl) (fun _ _ _ _ h => h) rfl rfl hC (fun K hK => ?_)
    go_big_quiet_op
    refine hK _ ?_
    clear hK K
    refine takeList (i := 3) rfl (by kernel_rfl) (by kernel_rfl) (by kernel_rfl) (fun _ _ _ _ h => h) rfl rfl hC (fun K hK => ?_)
    go_big_quiet_op
    refine hK _ ?_
    clear hK K
    refine takeList (i := 4) rfl (by kernel_rfl) (by kernel_rfl) (by kernel_rfl) (fun _ _ _ _ h => h) rfl rfl hC (fun K hK => ?_)
    go_big_quiet_op
    refine hK _ ?_
    clear hK K
    refine takeLook (i := 5) _ _ _ _ (.map (some L1.bT)) (.string x) v rfl rfl rfl rfl (by kernel_rfl) (by kernel_rfl) (by kernel_rfl) (fun _ _ _ _ h => h) rfl hC (fun w' ⟨m, hm⟩ => by rw [hm]; exact HLK.out _ (HS9.out.below m.h)) ?_
    go_simp
    refine takeList (i := 6) rfl (by kernel_rfl) (by kernel_rfl) (by kernel_rfl) (fun _ _ _ _ h => h) rfl rfl hC (fun K hK => ?_)
    go_big_quiet_op
    refine hK _ ?_
    clear hK K
    clear z0 z1 c1
    refine callList (i := 7) rfl (by kernel_rfl) rfl (fun K hK => ?_)
    go_simp
    refine (osearch_any v (S.th x) (d1, d2) W0 (HOV.out _ (HS9.out.below hB)) HUP.out (by have := HLL.out; omega)).mono ?_
    rintro e w10 ⟨rfl, hk⟩
    replace hB := bt hB hk
    refine hK.out _ _ ⟨⟨_, hB⟩, rfl⟩ ?_
    try go_simp
    clear hK K hC hk
    have hC : ∃ m : NewW w9, w10 = m.v := ⟨⟨_, hB⟩, rfl⟩
    refine takeList (i := 8) rfl (by kernel_rfl) (by kernel_rfl) (by kernel_rfl) (fun _ _ _ _ h => h) rfl rfl hC (fun K hK => ?_)
    go_big_quiet_op
    refine hK _ ?_
    clear hK K
    refine takeList (i := 9) rfl (by kernel_rfl) (by kernel_rfl) (by kernel_rfl) (fun _ _ _ _ h => h) rfl rfl hC (fun K hK => ?_)
    go_big_quiet_op
    refine hK _ ?_
    clear hK K
    refine takeList (i := 10) rfl (by kernel_rfl) (by kernel_rfl) (by kernel_rfl) (fun _ _ _ _ h => h) rfl rfl hC (fun K hK => ?_)
    go_big_quiet_op
    refine hK _ ?_
    clear hK K
    refine takeList (i := 11) rfl (by kernel_rfl) (by kernel_rfl) (by kernel_rfl) (fun _ _ _ _ h => h) rfl rfl hC (fun K hK => ?_)
    go_big_quiet_op
    refine hK _ ?_
    clear hK K
    refine takeList (i := 12) rfl (by kernel_rfl) (by kernel_rfl) (by kernel_rfl) (fun _ _ _ _ h => h) rfl rfl hC (fun K hK => ?_)
    go_big_quiet_op
    refine hK _ ?_
    clear hK K
    obtain ⟨pl, hpl⟩ : ∃ pl, C.place (d1, d2) (S.th x) = pl := ⟨_, rfl⟩
    rw [hpl]
    have HPL : Hid (C.place (d1, d2) (S.th x) = pl) := hpl
    have HB10 : Hid (Below w9.heap.size w9 w10) := hB
    clear hC hne hB hpl
    refine wpAnyH_done (by kernel_rfl) ?_ _
    have HS10 : Hid (SetAt w10 g (n + 1) L1 (S.addA (d1, d2) x)) := HS9.out.below HB10.out
    have HQ10 : Hid (w10.heap[gd]? = some (.cells #[.int .i64 d1, .int .i64 d2] 31)) := keep_on HB10.out HQ9.out
    have HVB : Hid (∀ b, v.ownBlock = some b → L1.foot g (S.addA (d1, d2) x) b ∧ b ≠ g ∧ b ≠ L1.bT) := fun b hb => by
      have e := HV.out
      unfold OLay.val at e
      by_cases hx0 : (S.addA (d1, d2) x).th x = []
      · rw [if_pos hx0] at e; subst e; cases hb
      · rw [if_neg hx0] at e; rw [← e] at hb
        have hr := HS10.out.row_apart hx0 hb
        exact ⟨Or.inr (Or.inr (Or.inr (Or.inr ⟨x, hx0, hb⟩))), hr.1, hr.2.2.1⟩
    obtain ⟨T, hT⟩ : ∃ T : Nat → Prop, T = fun b => v.ownBlock = some b ∨ b = L1.bT := ⟨_, rfl⟩
    have HT1 : Hid (¬ T g) := fun h => by rw [hT] at h; exact h.elim (fun h => (HVB.out g h).2.1 rfl) fun h => HS10.out.apart.2.1 h
    have HT2 : Hid (¬ T gd) := fun h => by rw [hT] at h; exact h.elim (fun h => HG8.out gd (HVB.out gd h).1 rfl) fun h => HG8.out gd (Or.inr (Or.inr (Or.inl h))) rfl
    have HT3 : Hid (∀ b, v.ownBlock = some b → T b) := fun b hb => by rw [hT]; exact Or.inl hb
    have HT4 : Hid (T L1.bT) := by show T _; rw [hT]; exact Or.inr rfl
    clear hT
    have hne : Nonempty (TurnB w10 T) := ⟨⟨w10, Turn.refl _ _⟩⟩
    have c1 : ∀ m : TurnB w10 T, m.W.cell? ⟨g, 1, none⟩ = some (.map (some L1.bT)) := fun m =>
      (World.cell?_of_block (a := ⟨g, 1, none⟩) (m.h.block g (HS10.out.lt (Or.inl rfl)) HT1.out)).trans HS10.out.cells.2.1
    have hqm : ∀ m : TurnB w10 T, m.W.heap[gd]? = some (.cells #[.int .i64 d1, .int .i64 d2] 31) := fun m => by
      rw [m.h.block gd (Array.getElem?_eq_some_iff.1 HQ10.out).1 HT2.out]; exact HQ10.out
    have z0 : ∀ m : TurnB w10 T, m.W.cell? ⟨gd, 0, none⟩ = some (.int .i64 d1) := fun m => (box2 (hqm m)).1
    have z1 : ∀ m : TurnB w10 T, m.W.cell? ⟨gd, 1, none⟩ = some (.int .i64 d2) := fun m => (box2 (hqm m)).2
    go_wp2_with fail
    have hC : ∃ m : TurnB w10 T, w10.drew = m.W := ⟨⟨w10.drew, (Turn.refl _ _).drew⟩, rfl⟩
    refine wp_region_held_drew (S := fun w' => ∃ m : TurnB w10 T, w' = m.W) (by kernel_rfl) hC (fun _ => ?_)
    have hB : Below w10.heap.size w10 w10.drew := (Below.refl _ w10).drew
    generalize hW0 : w10.drew = W0 at *
    clear hW0
    refine takeList (i := 0) rfl (by kernel_rfl) (by kernel_rfl) (by kernel_rfl) (fun _ _ _ _ h => h) rfl rfl hC (fun K hK => ?_)
    go_big_quiet_op
    refine hK _ ?_
    clear hK K
    refine takeNil (i := 1) rfl rfl rfl (by kernel_rfl) (by kernel_rfl) (by kernel_rfl) (fun _ _ _ _ h => h) rfl hC ?_
    go_simp
    refine takeList (i := 2) rfl (by kernel_rfl) (by kernel_rfl) (by kernel_rfl) (fun _ _ _ _ h => h) rfl rfl hC (fun K hK => ?_)
    go_big_quiet_op
    refine hK _ ?_
    clear hK K
    refine takeList (i := 3) rfl (by kernel_rfl) (by kernel_rfl) (by kernel_rfl) (fun _ _ _ _ h => h) rfl rfl hC (fun K hK => ?_)
    go_big_quiet_op
    refine hK _ ?_
    clear hK K
    refine takeList (i := 4) rfl (by kernel_rfl) (by kernel_rfl) (by kernel_rfl) (fun _ _ _ _ h => h) rfl rfl hC (fun K hK => ?_)
    go_big_quiet_op
    refine hK _ ?_
    clear hK K
    refine takeList (i := 5) rfl (by kernel_rfl) (by kernel_rfl) (by kernel_rfl) (fun _ _ _ _ h => h) rfl rfl hC (fun K hK => ?_)
    go_big_quiet_op
    refine hK _ ?_
    clear hK K
    refine takeNil (i := 6) rfl rfl rfl (by kernel_rfl) (by kernel_rfl) (by kernel_rfl) (fun _ _ _ _ h => h) rfl hC ?_
    go_simp
    refine takeList (i := 7) rfl (by kernel_rfl) (by kernel_rfl) (by kernel_rfl) (fun _ _ _ _ h => h) rfl rfl hC (fun K hK => ?_)
    go_big_quiet_op
    refine hK _ ?_
    clear hK K
    refine takeList (i := 8) rfl (by kernel_rfl) (by kernel_rfl) (by kernel_rfl) (fun _ _ _ _ h => h) rfl rfl hC (fun K hK => ?_)
    go_big_quiet_op
    refine hK _ ?_
    clear hK K
    refine takeList (i := 9) rfl (by kernel_rfl) (by kernel_rfl) (by kernel_rfl) (fun _ _ _ _ h => h) rfl rfl hC (fun K hK => ?_)
    go_big_quiet_op
    refine hK _ ?_
    clear hK K
    refine takeList (i := 11) rfl (by kernel_rfl) (by kernel_rfl) (by kernel_rfl) (fun _ _ _ _ h => h) rfl rfl hC (fun K hK => ?_)
    go_big_quiet_op
    refine hK _ ?_
    clear hK K
    refine takeList (i := 12) rfl (by kernel_rfl) (by kernel_rfl) (by kernel_rfl) (fun _ _ _ _ h => h) rfl rfl hC (fun K hK => ?_)
    go_big_quiet_op
    refine hK _ ?_
    clear hK K
    clear z0 z1 c1 hqm hne
    have hB0 := hB
    refine wpAnyH_ready (rs := [10, 13]) (by kernel_rfl) (by simp) (AllReadyH.cons (at_of_drop (i := 10) rfl) (fun K hK => ?_) (AllReadyH.cons (at_of_drop (i := 13) rfl) (fun K hK => ?_) AllReadyH.nil))
    · skip
      rw [if_pos (by rfl)]
      refine op_look _ _ _ _ (.map (some L1.bT)) (.string x) v rfl rfl rfl (HLK.out _ (HS10.out.below hB)) ?_
      refine hK.out _ _ ⟨⟨_, Turn.of_below hB⟩, rfl⟩ (fun hC => ?_)
      try go_simp
      clear hK K
      refine wpAnyH_ready (rs := [13]) (by kernel_rfl) (by simp) (AllReadyH.cons (at_of_drop (i := 13) rfl) (fun K hK => ?_) AllReadyH.nil)
      rw [if_pos (by rfl)]
      go_simp
      have hal := below_new W0 (.cells #[.int .i64 d1, .int .i64 d2] 31)
      have hd := heap_alloc_new W0 (.cells #[.int .i64 d1, .int .i64 d2] 31)
      replace hB := bt hB hal
      have hnv : v.ownBlock ≠ some W0.heap.size := fun e => by have h1 := row_lt (HOV.out _ HS10.out) e; have h2 := hB0.size; omega
      refine hK.out _ _ ⟨⟨_, Turn.of_below hB⟩, rfl⟩ (fun hC => ?_)
      generalize World.alloc W0 (.cells #[.int .i64 d1, .int .i64 d2] 31) = W1 at *
      generalize W0.heap.size = vb at *
      clear hK K hal
      have HS11 : Hid (SetAt W1 g (n + 1) L1 (S.addA (d1, d2) x)) := HS10.out.below hB
      refine callList (i := 14) rfl (by kernel_rfl) rfl (fun K hK => ?_)
      go_simp
      refine (insert_any v (S.th x) pl d1 d2 vb W1 (HOV.out _ HS11.out) hd hnv (by rw [← HPL.out]; exact C.place_le _ _) (by have := HLL.out; omega)).mono ?_
      rintro e w12 ⟨v', rfl, ho12, hg12, hv12⟩
      rw [← HPL.out, ← C.ins_place _ _ HUP.out HNI.out] at ho12
      have hT12 : Turn w10 w12 T := (Turn.of_below hB).trans (Turn.of_grown (S := T) hg12 fun b hb => HT3.out b hb) fun b hb => Or.inl hb
      refine hK.out _ _ ⟨⟨_, hT12⟩, rfl⟩ ?_
      try go_simp
      clear hK K hC
      have hC : ∃ m : TurnB w10 T, w12 = m.W := ⟨⟨_, hT12⟩, rfl⟩
      obtain ⟨mT, hmT, hrT⟩ := HS11.out.mT
      have hmT2 : GMap w12 9 L1.bT (n + 1) mT := hmT.same (hg12.block _ hmT.lt fun e => (HVB.out _ e.symm).2.2 rfl)
      refine callList (i := 15) rfl (by kernel_rfl) rfl (fun K hK => ?_)
      refine op_store _ _ _ _ rfl Try.underlying62 str_keys hmT2 (by have := HNN.out; omega) (key := .string x) (c := v') (str_key HX.out) rfl rfl rfl ?_
      intro w13 hm13 hg13
      have HRF : Hid (SetRet w10 g L1 (S.addA (d1, d2) x) (n + 2) ((S.addA (d1, d2) x).addT x (C.insL (d1, d2) (S.th x))) w13) := setT_of HS10.out hrT x _ v' (fun e => by have h1 : (d1, d2) ∈ C.insL (d1, d2) (S.th x) := (C.ins_mem _ _ _).2 (Or.inl rfl); rw [e] at h1; cases h1) hm13 hB ho12 (by rw [HV.out]; exact hg12) (by rw [HV.out]; exact hv12) hg13
      refine hK.out _ _ ⟨⟨_, hT12.trans (Turn.of_grown (S := T) hg13 fun b hb => by cases hb; exact HT4.out) fun b hb => Or.inl hb⟩, rfl⟩ ?_
      clear hK K hC hm13 hg13 hmT hrT hmT2 ho12 hg12 hv12 hT12
      refine wpAnyH_done (by kernel_rfl) ?_ _
      go_wp2
      go_ret
      refine ⟨rfl, ?_⟩
      try rw [if_neg (by simp)]
      exact SetRet.step HF8.out HT8w.out (SetRet.after HS8.out (bt HB9.out HB10.out) HRF.out)
    · skip
      rw [if_pos (by rfl)]
      go_simp
      have hal := below_new W0 (.cells #[.int .i64 d1, .int .i64 d2] 31)
      have hd := heap_alloc_new W0 (.cells #[.int .i64 d1, .int .i64 d2] 31)
      replace hB := bt hB hal
      have hnv : v.ownBlock ≠ some W0.heap.size := fun e => by have h1 := row_lt (HOV.out _ HS10.out) e; have h2 := hB0.size; omega
      refine hK.out _ _ ⟨⟨_, Turn.of_below hB⟩, rfl⟩ (fun hC => ?_)
      generalize World.alloc W0 (.cells #[.int .i64 d1, .int .i64 d2] 31) = W1 at *
      generalize W0.heap.size = vb at *
      clear hK K hal
      refine wpAnyH_ready (rs := [10]) (by kernel_rfl) (by simp) (AllReadyH.cons (at_of_drop (i := 10) rfl) (fun K hK => ?_) AllReadyH.nil)
      rw [if_pos (by rfl)]
      refine op_look _ _ _ _ (.map (some L1.bT)) (.string x) v rfl rfl rfl (HLK.out _ (HS10.out.below hB)) ?_
      refine hK.out _ _ ⟨⟨_, Turn.of_below hB⟩, rfl⟩ (fun hC => ?_)
      try go_simp
      clear hK K
      have HS11 : Hid (SetAt W1 g (n + 1) L1 (S.addA (d1, d2) x)) := HS10.out.below hB
      refine callList (i := 14) rfl (by kernel_rfl) rfl (fun K hK => ?_)
      go_simp
      refine (insert_any v (S.th x) pl d1 d2 vb W1 (HOV.out _ HS11.out) hd hnv (by rw [← HPL.out]; exact C.place_le _ _) (by have := HLL.out; omega)).mono ?_
      rintro e w12 ⟨v', rfl, ho12, hg12, hv12⟩
      rw [← HPL.out, ← C.ins_place _ _ HUP.out HNI.out] at ho12
      have hT12 : Turn w10 w12 T := (Turn.of_below hB).trans (Turn.of_grown (S := T) hg12 fun b hb => HT3.out b hb) fun b hb => Or.inl hb
      refine hK.out _ _ ⟨⟨_, hT12⟩, rfl⟩ ?_
      try go_simp
      clear hK K hC
      have hC : ∃ m : TurnB w10 T, w12 = m.W := ⟨⟨_, hT12⟩, rfl⟩
      obtain ⟨mT, hmT, hrT⟩ := HS11.out.mT
      have hmT2 : GMap w12 9 L1.bT (n + 1) mT := hmT.same (hg12.block _ hmT.lt fun e => (HVB.out _ e.symm).2.2 rfl)
      refine callList (i := 15) rfl (by kernel_rfl) rfl (fun K hK => ?_)
      refine op_store _ _ _ _ rfl Try.underlying62 str_keys hmT2 (by have := HNN.out; omega) (key := .string x) (c := v') (str_key HX.out) rfl rfl rfl ?_
      intro w13 hm13 hg13
      have HRF : Hid (SetRet w10 g L1 (S.addA (d1, d2) x) (n + 2) ((S.addA (d1, d2) x).addT x (C.insL (d1, d2) (S.th x))) w13) := setT_of HS10.out hrT x _ v' (fun e => by have h1 : (d1, d2) ∈ C.insL (d1, d2) (S.th x) := (C.ins_mem _ _ _).2 (Or.inl rfl); rw [e] at h1; cases h1) hm13 hB ho12 (by rw [HV.out]; exact hg12) (by rw [HV.out]; exact hv12) hg13
      refine hK.out _ _ ⟨⟨_, hT12.trans (Turn.of_grown (S := T) hg13 fun b hb => by cases hb; exact HT4.out) fun b hb => Or.inl hb⟩, rfl⟩ ?_
      clear hK K hC hm13 hg13 hmT hrT hmT2 ho12 hg12 hv12 hT12
      refine wpAnyH_done (by kernel_rfl) ?_ _
      go_wp2
      go_ret
      refine ⟨rfl, ?_⟩
      try rw [if_neg (by simp)]
      exact SetRet.step HF8.out HT8w.out (SetRet.after HS8.out (bt HB9.out HB10.out) HRF.out)
end Go.Proofs.Ytoglhhoniojbaaa

namespace Go.Proofs.Ytoglhhoniojbaaa
open Go.RowKit Go.Lib
set_option linter.unusedVariables false

theorem orowD_set (l : List C.Dt) (k : Nat) (x : C.Dt) : rowD (l.set k x) = ((rowD l).set (k * 2) (.int .i64 x.1)).set (k * 2 + 1) (.int .i64 x.2) := by
  induction l generalizing k with
  | nil => rfl
  | cons y r ih =>
    have e : ∀ z : C.Dt, ∀ q, rowD (z :: q) = .int .i64 z.1 :: .int .i64 z.2 :: rowD q := fun _ _ => rfl
    cases k with
    | zero => simp [e]
    | succ k =>
      rw [List.set_cons_succ, e, e, ih, show (k + 1) * 2 = k * 2 + 1 + 1 by omega]
      simp
theorem OwnD.oset {w : World} {g n cap : Nat} {l : List C.Dt} (h : OwnD w (.slice (some ⟨g, 0, none⟩) n cap) l) (hn : n = l.length) (k : Nat) (x : C.Dt) :
    OwnD ((w.setCell ⟨g, k * 2, none⟩ (.int .i64 x.1)).setCell ⟨g, k * 2 + 1, none⟩ (.int .i64 x.2)) (.slice (some ⟨g, 0, none⟩) n cap) (l.set k x) := by
  subst hn
  have h1 := (World.ownsRow.stored h (k * 2) (.int .i64 x.1)).1
  have h2 := (World.ownsRow.stored h1 (k * 2 + 1) (.int .i64 x.2)).1
  unfold OwnD
  rw [List.length_set, orowD_set]
  exact h2
theorem oownD_free {w : World} {g n cap : Nat} {l : List C.Dt} (h : OwnD w (.slice (some ⟨g, 0, none⟩) n cap) l) (k : Nat) : w.frozen? ⟨g, k, none⟩ = false := by
  obtain ⟨cur, hc⟩ := row_type h rfl
  simp [World.frozen?, hc]
/-- What Remove had seen, in its block. -/
def SeenAt (w : World) (gs : Nat) (c : V7) : Prop := w.heap[gs]? = some (.cells #[.int .i64 c.x0, .int .i64 c.x1, .int .i64 c.x2, .int .i64 c.x3, .int .i64 c.x4, .int .i64 c.x5, .int .i64 c.x6] 28)
theorem SeenAt.below {w w' : World} {gs : Nat} {c : V7} (h : SeenAt w gs c) (hb : Below w.heap.size w w') : SeenAt w' gs c := keep_on hb h
theorem SeenAt.ne {w : World} {gs : Nat} {c : V7} {v : Value} {l : List C.Dt} (h : SeenAt w gs c) (ho : OwnD w v l) : v.ownBlock ≠ some gs := fun e => by
  obtain ⟨cur, hc⟩ := row_type ho e
  unfold SeenAt at h
  rw [h] at hc; simp at hc
def seenF (gs : Nat) : Value := .func (.func 33) #[] #[.pointer (some ⟨gs, 0, none⟩)]
set_option maxRecDepth 100000 in
set_option maxHeartbeats 4000000 in
theorem fn_any (gs : Nat) (c : V7) (d1 d2 : Int) (w : World) (h : SeenAt w gs c) (z : Bool) (hz : C.has c d1 d2 = z) :
    Calls Try.prog 33 #[.agg #[.int .i64 d1, .int .i64 d2], .pointer (some ⟨gs, 0, none⟩)] w fun e w' => e = .returned (.bool z) ∧ Below w.heap.size w w' := by
  have HH : Hid (∀ W, Calls Try.prog 28 #[c.v, .agg #[.int .i64 d1, .int .i64 d2]] W fun e w' => e = .returned (.bool z) ∧ Below W.heap.size W w') := fun W => by rw [← hz]; exact has_any _ d1 d2 W
  have h1 : SeenAt (w.alloc (.cells #[.int .i64 d1, .int .i64 d2] 31)) gs c := h.below (below_new _ _)
  obtain ⟨s0, s1, s2, s3, s4, s5, s6⟩ := box7 h1
  obtain ⟨z0, z1⟩ := box2 (heap_alloc_new w (.cells #[.int .i64 d1, .int .i64 d2] 31))
  clear h h1 hz
  obtain ⟨c0, c1, c2, c3, c4, c5, c6⟩ := c
  simp only [V7.v] at *
  go_enter Try.func33, Try.ntmps33
  go_wp2_with fail
  refine (HH.out _).mono ?_
  rintro e w1 ⟨rfl, hb⟩
  have HB : Hid (Below w.heap.size w w1) := bt (below_new w _) hb
  clear hb
  go_wp2
  go_ret
  exact ⟨rfl, HB.out⟩
set_option maxRecDepth 100000 in
set_option maxHeartbeats 8000000 in
theorem index_any (gs : Nat) (c : V7) (v : Value) (l : List C.Dt) (w : World) (h : OwnD w v l) (hs : SeenAt w gs c) (hl : l.length ≤ 1000000) :
    Calls Try.prog 60 #[v, seenF gs] w fun e w' => (∃ k : Nat, k ≤ l.length ∧ (∀ j x, j < k → l[j]? = some x → C.has c x.1 x.2 = false) ∧ ((k = l.length ∧ e = .returned (.int .i64 (-1))) ∨ ∃ x, l[k]? = some x ∧ C.has c x.1 x.2 = true ∧ e = .returned (.int .i64 (k : Nat)))) ∧ Below w.heap.size w w' := by
  obtain ⟨q, cp, hv⟩ := h.len
  subst hv
  obtain ⟨n, hn⟩ : ∃ n, n = l.length := ⟨_, rfl⟩
  have HN : Hid (n = l.length) := hn
  have HO : Hid (OwnD w (.slice q n cp) l) := by show OwnD _ _ _; rw [hn]; exact h
  have HS : Hid (SeenAt w gs c) := hs
  rw [← hn] at hl ⊢
  clear h hs hn
  unfold seenF
  go_enter Try.func60, Try.ntmps60
  go_wp2_with fail
  go_loopw [8] (fun s8 wr => ∃ k : Nat, s8 = .int .i64 k ∧ k ≤ n ∧ Hid (∀ j x, j < k → l[j]? = some x → C.has c x.1 x.2 = false) ∧ Hid (Below w.heap.size w wr)) (fun s8 _ => n - (intOf s8).toNat)
  case atStart => exact ⟨0, rfl, Nat.zero_le _, fun j x hj => by omega, Below.refl _ _⟩
  case round =>
    obtain ⟨k, rfl, hkn, HP, HB⟩ := hrel
    by_cases hlt : k < n
    · obtain ⟨x, hx⟩ : ∃ x, l[k]? = some x := ⟨_, List.getElem?_eq_getElem (by have := HN.out; omega)⟩
      have HX : Hid (l[k]? = some x) := hx
      obtain ⟨gb, cap, hvs⟩ := HO.out.at (by have := HN.out; omega)
      rw [← HN.out] at hvs
      cases hvs
      obtain ⟨a0, a1⟩ := OwnD.cell (HO.out.below HB.out) k x hx
      obtain ⟨z, hz⟩ : ∃ z, C.has c x.1 x.2 = z := ⟨_, rfl⟩
      have HZ : Hid (C.has c x.1 x.2 = z) := hz
      clear hx hz
      obtain ⟨d1, d2⟩ := x
      simp only at a0 a1
      cases z with
      | true =>
        go_wp2_with fail
        refine (fn_any gs c d1 d2 wr (HS.out.below HB.out) true HZ.out).mono ?_
        rintro e w1 ⟨rfl, hb⟩
        have HB1 : Hid (Below w.heap.size w w1) := bt HB.out hb
        clear hb a0 a1
        go_wp2
        go_ret
        exact ⟨⟨k, hkn, HP.out, Or.inr ⟨_, HX.out, HZ.out, rfl⟩⟩, HB1.out⟩
      | false =>
        go_wp2_with fail
        refine (fn_any gs c d1 d2 wr (HS.out.below HB.out) false HZ.out).mono ?_
        rintro e w1 ⟨rfl, hb⟩
        have HB1 : Hid (Below w.heap.size w w1) := bt HB.out hb
        clear hb a0 a1
        go_wp2
        go_roundw
        case rel =>
          refine ⟨k + 1, by go_num, by omega, fun j x hj hx => ?_, HB1.out⟩
          by_cases hjk : j = k
          · subst hjk
            rw [HX.out] at hx; cases hx; exact HZ.out
          · exact HP.out j x (by omega) hx
        case measure => simp [intOf]; omega
    · obtain rfl : k = n := by omega
      go_wp2
      go_ret
      exact ⟨⟨k, Nat.le_refl _, HP.out, Or.inl ⟨HN.out.symm ▸ rfl, rfl⟩⟩, HB.out⟩
end Go.Proofs.Ytoglhhoniojbaaa
