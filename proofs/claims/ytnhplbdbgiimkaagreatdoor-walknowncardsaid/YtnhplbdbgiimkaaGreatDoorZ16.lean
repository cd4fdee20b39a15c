/-
  Several texts in one: WPieces, WPieces2, WNew1.
-/
import Derived.Test.YtnhplbdbgiimkaaGreatDoorZ15
import Derived.Test.YtnhplbdbgiimkaaGreatDoorZ13
import Derived.Test.YtnhplbdbgiimkaaGreatDoorZ3
import Derived.Test.YtnhplbdbgiimkaaGreatDoorZ10
namespace Go.Proofs.YtnhplbdbgiimkaaGreatDoor
open Go.RowKit Go.Lib
set_option linter.unusedVariables false

/-- A piece as it lies. -/
structure Pm where
  c : C.Pc
  rv : Value
def encP (x : Pm) : List Value := [.int .i64 (x.c.file : Nat), .int .i64 (x.c.age : Nat), .int .i64 (x.c.first : Nat), x.rv, .int .i64 (x.c.fin : Nat), .bool x.c.torn]
def rowP (l : List Pm) : List Value := l.flatMap encP
theorem rowP_length (l : List Pm) : (rowP l).length = l.length * 6 := by
  induction l with
  | nil => rfl
  | cons x r ih => simp only [rowP, List.flatMap_cons, List.length_append, encP, List.length_cons, List.length_nil] at *; omega
theorem info_pc : (Tryz.prog.info? 66).map (fun i => (i.zero, i.size, i.bytes)) = some (some (.agg #[.int .i64 0, .int .i64 0, .int .i64 0, .slice none 0 0, .int .i64 0, .bool false]), 6, 64) := by kernel_rfl
/-- A row of pieces of the call's own. -/
def OwnM (w : World) (base : Nat) (v : Value) (l : List Pm) : Prop := w.ownsRow base 66 6 v l.length (rowP l)
def RecsM (w : World) (base : Nat) (l : List Pm) : Prop := ∀ x ∈ l, RecsOwn w base x.rv x.c.recs
theorem OwnM.nil (w : World) (base : Nat) : OwnM w base (.slice none 0 0) [] := World.ownsRow_nil _ _ _ _
theorem OwnM.below {w w' : World} {base : Nat} {v : Value} {l : List Pm} (h : OwnM w base v l) (hb : Below w.heap.size w w') : OwnM w' base v l := row_same h fun b hb' => hb.block b (row_lt h hb')
theorem RecsM.below {w w' : World} {base : Nat} {l : List Pm} (h : RecsM w base l) (hb : Below w.heap.size w w') : RecsM w' base l := fun x hx => (h x hx).below hb
theorem OwnM.ge {w : World} {base : Nat} {v : Value} {l : List Pm} (h : OwnM w base v l) : ∀ k, v.ownBlock = some k → base ≤ k := fun k hk => (World.ownsRow.lt h k hk).1
theorem RecsOwn.grownM {w w' : World} {base base' : Nat} {v x : Value} {l : List Pm} {L : List (List UInt8)} (h : RecsOwn w base x L) (hp : OwnM w base' v l) (hg : w.grownBy w' v.ownBlock) : RecsOwn w' base x L := by
  refine h.same fun b _ hlt hc => hg.block b hlt fun e => ?_
  obtain ⟨cur, hc'⟩ := row_type hp e.symm
  rcases hc with ⟨cur2, hc⟩ | ⟨cur2, hc⟩
  · exact blk_ne hc hc' (by decide) rfl
  · exact blk_ne hc hc' (by decide) rfl
theorem RecsOwn.oneCell {w : World} {base : Nat} {v : Value} {L : List (List UInt8)} (h : RecsOwn w base v L) : v.oneCell' = true := by
  obtain ⟨p, c, rfl, _⟩ := h.len; rfl
theorem OwnM.len {w : World} {base : Nat} {v : Value} {l : List Pm} (h : OwnM w base v l) : ∃ p c, v = .slice p l.length c ∧ c ≤ maxLen ∧ (∀ a, p = some a → base ≤ a.block) := by
  rcases h.2 with ⟨rfl, h0⟩ | ⟨g, cap, cur, rfl, hb, _, _, hm, _⟩
  · exact ⟨none, 0, by rw [h0], Nat.zero_le _, fun a e => by cases e⟩
  · exact ⟨_, cap, rfl, hm, fun a e => by cases e; exact hb⟩
theorem wpList_append_pm {w : World} {ops : Array Oper} {rest : List Oper} {o : Oper} {a : Act} {Q : Exit → Act → World → Prop} (hgd : o.guard = none) (s x : Operand)
    (ho : o.op = .call { callee := .builtin .append, args := #[s, x], argTypes := #[56, 56] })
    (base : Nat) (v : Value) (l : List Pm) (hs : a.eval s = v) (hown : OwnM w base v l) (y : Pm) (B : Nat) (hx : a.eval x = .slice (some ⟨B, 0, none⟩) 1 1) (hy : ∀ j u, (encP y)[j]? = some u → w.cell? (Addr.add ⟨B, 0, none⟩ j) = some u) (hy1 : y.rv.oneCell' = true) (hn : l.length ≤ 100000) (hB : base ≤ w.heap.size)
    (h : ∀ v' w', OwnM w' base v' (l ++ [y]) → w.grownBy w' v.ownBlock → wpList Tryz.prog ops Q rest (a.put o.dst v') w') : wpList Tryz.prog ops Q (o :: rest) a w := by
  obtain ⟨i, hi, hz, hsz, hb⟩ := info_parts info_pc
  refine wpList_append_own _ hgd s x 56 ho base 66 i _ 6 64 Tryz.underlying56 hi hz hsz hb rfl (by decide) v l.length (rowP l) hs hown ⟨B, 0, none⟩ 1 1 (encP y) hx rfl hy ?_ (by unfold maxLen; omega) (by omega) hB ?_
  · intro u hu
    simp only [encP, List.mem_cons, List.not_mem_nil, or_false] at hu
    rcases hu with rfl | rfl | rfl | rfl | rfl | rfl <;> first | rfl | exact hy1
  · intro v' w' h1 h2 _
    refine h v' w' ?_ h2
    unfold OwnM
    rw [List.length_append, show rowP (l ++ [y]) = rowP l ++ encP y by simp [rowP]]
    exact h1
theorem row_lower {w : World} {base base' e size n : Nat} {v : Value} {xs : List Value} (h : w.ownsRow base e size v n xs) (hle : base' ≤ base) : w.ownsRow base' e size v n xs := by
  obtain ⟨h1, h2⟩ := h
  refine ⟨h1, ?_⟩
  rcases h2 with h2 | ⟨g, cap, cur, a, b, c⟩
  · exact Or.inl h2
  · exact Or.inr ⟨g, cap, cur, a, Nat.le_trans hle b, c⟩
theorem RecsOwn.lower {w : World} {base base' : Nat} {v : Value} {L : List (List UInt8)} (h : RecsOwn w base v L) (hle : base' ≤ base) : RecsOwn w base' v L := by
  obtain ⟨ps, h1, h2, h3⟩ := h
  exact ⟨ps, row_lower h1 hle, fun x hx => row_lower (h2 x hx) hle, h3⟩
theorem ents_nil {a n : Nat} {rs : List (List UInt8)} (h : C.ents a n rs = []) : rs = [] := by
  cases rs with
  | nil => rfl
  | cons r x =>
    have := congrArg List.length h
    simp only [C.ents, List.length_append, C.ent_length, List.length_nil] at this
    omega
theorem piece_own (v : Value) (base : Nat) (p : C.Pc) (w : World) (hT : Tabs w) (hx : Own w base v p.bytes) (hok : p.Ok) (hbig : p.bytes.length ≤ 1048576) :
    Calls Tryz.prog 46 #[.int .i64 (p.file : Nat), v] w fun e w' => PieceRet e w w' p.file p.age p.first p.recs p.tl ∧ Below w.heap.size w w' := by
  rcases hx.2 with ⟨rfl, h0⟩ | ⟨g, cap, cur, rfl, _⟩
  · have hb : p.bytes = [] := List.eq_nil_of_length_eq_zero h0
    have hb2 := hb
    unfold C.Pc.bytes at hb2
    obtain ⟨h1, h2⟩ := List.append_eq_nil_iff.1 hb2
    have h3 := ents_nil h1
    refine (piece_nil p.file w hT).mono ?_
    rintro e w' ⟨h, hbl⟩
    refine ⟨?_, hbl⟩
    rw [h3, h2]
    exact h
  · exact piece_any p.file g cap p.age p.first p.recs p.tl p.bytes w hT (row_lower hx (Nat.zero_le _)) rfl hok.tl hok.age hok.first hok.recs hbig
theorem files_fs {s : C.St} (h : s.off = false) : filesE s = (C.fs s).map fun k : Nat => (k : Int) := by
  unfold filesE
  rw [if_neg (by rw [h]; decide)]; rfl
def PcsOk (s : C.St) (pc : Nat → C.Pc) : Prop := ∀ k, k < 1000 → s.is k = true → C.dat s.ws k = (pc k).bytes ∧ (pc k).Ok ∧ (pc k).file = k
theorem read_fs {s : C.St} (h : s.off = false) {k : Nat} (hk : k < 1000) (hi : s.is k = true) : readE s (k : Int) = 0 ∧ readB s (k : Int) = C.dat s.ws k := by
  have e0 : refE s (k : Int) = 0 := by
    unfold refE
    rw [if_neg (by rw [h]; decide), if_neg (by omega)]
  have e1 : readE s (k : Int) = 0 := by
    unfold readE
    rw [if_pos e0, Int.toNat_natCast, if_pos hi]
  refine ⟨e1, ?_⟩
  unfold readB
  rw [if_pos e1, Int.toNat_natCast]
theorem PieceRet.cases {e : Ending} {w w' : World} {p : C.Pc} (h : PieceRet e w w' p.file p.age p.first p.recs p.tl) :
    (C.rdE p.tl = C.gapR ∧ ∃ vp vc, vc ≤ maxLen ∧ RecsOwn w' w.heap.size (.slice vp p.recs.length vc) p.recs ∧ ((p.recs = [] ∧ e = .returned (.tuple #[.agg #[.int .i64 (p.file : Nat), .int .i64 0, .int .i64 0, .slice vp p.recs.length vc, .int .i64 (p.fin : Nat), .bool p.torn], .bool true])) ∨ (p.recs ≠ [] ∧ e = .returned (.tuple #[.agg #[.int .i64 (p.file : Nat), .int .i64 (p.age : Nat), .int .i64 (p.first : Nat), .slice vp p.recs.length vc, .int .i64 (p.fin : Nat), .bool p.torn], .bool true])))) ∨
    (C.rdE p.tl = C.badR ∧ e = .returned (.tuple #[.agg #[.int .i64 0, .int .i64 0, .int .i64 0, .slice none 0 0, .int .i64 0, .bool false], .bool false])) := by
  rcases h with ⟨h1, v, rfl, ho⟩ | h
  · obtain ⟨vp, vc, rfl, hvc⟩ := ho.len
    refine Or.inl ⟨h1, vp, vc, hvc, ho, ?_⟩
    by_cases hr : p.recs = []
    · exact Or.inl ⟨hr, by rw [if_pos hr, if_pos hr]; rfl⟩
    · exact Or.inr ⟨hr, by rw [if_neg hr, if_neg hr]; rfl⟩
  · exact Or.inr h
end Go.Proofs.YtnhplbdbgiimkaaGreatDoor

namespace Go.Proofs.YtnhplbdbgiimkaaGreatDoor
open Go.RowKit Go.Lib
set_option linter.unusedVariables false

/-- What readPieces answers. -/
def PcsRet (e : Ending) (w w' : World) (s : C.St) (pc : Nat → C.Pc) : Prop :=
  ((∀ k ∈ C.fs s, C.rdE (pc k).tl = C.gapR) ∧ ∃ v l, e = .returned (.tuple #[v, .int .i64 0]) ∧ OwnM w' w.heap.size v l ∧ RecsM w' w.heap.size l ∧ l.map Pm.c = ((C.fs s).map pc).filter C.has) ∨
  ((∃ k ∈ C.fs s, C.rdE (pc k).tl = C.badR) ∧ e = .returned (.tuple #[.slice none 0 0, .int .i64 3]))
structure PsInv (w1 wr : World) (F : List Nat) (pc : Nat → C.Pc) (k : Nat) (v : Value) (l : List Pm) : Prop where
  le : k ≤ F.length
  own : OwnM wr w1.heap.size v l
  recs : RecsM wr w1.heap.size l
  is : l.map Pm.c = ((F.take k).map pc).filter C.has
  gap : ∀ f ∈ F.take k, C.rdE (pc f).tl = C.gapR
  bel : Below w1.heap.size w1 wr
theorem PsInv.len {w1 wr : World} {F : List Nat} {pc : Nat → C.Pc} {k : Nat} {v : Value} {l : List Pm} (h : PsInv w1 wr F pc k v l) : l.length ≤ F.length := by
  have := congrArg List.length h.is
  rw [List.length_map] at this
  rw [this]
  refine Nat.le_trans (List.length_filter_le _ _) ?_
  rw [List.length_map, List.length_take]; omega
theorem PsInv.skip {w1 wr w2 : World} {F : List Nat} {pc : Nat → C.Pc} {k f : Nat} {v : Value} {l : List Pm} (h : PsInv w1 wr F pc k v l) (hf : F[k]? = some f) (hr : (pc f).recs = []) (hg : C.rdE (pc f).tl = C.gapR) (hb : Below wr.heap.size wr w2) : PsInv w1 w2 F pc (k + 1) v l := by
  have hk : k < F.length := (List.getElem?_eq_some_iff.1 hf).1
  refine ⟨hk, h.own.below hb, h.recs.below hb, ?_, ?_, bt h.bel hb⟩
  · rw [List.take_add_one, hf, List.map_append, List.filter_append, h.is]
    simp [C.has, hr]
  · intro x hx
    rw [List.take_add_one, hf] at hx
    rcases List.mem_append.1 hx with hx | hx
    · exact h.gap x hx
    · simp at hx; subst hx; exact hg
theorem PsInv.next {w1 wr w2 w3 : World} {F : List Nat} {pc : Nat → C.Pc} {k f : Nat} {v v3 rv : Value} {l : List Pm} (h : PsInv w1 wr F pc k v l) (hf : F[k]? = some f) (hr : (pc f).recs ≠ []) (hg : C.rdE (pc f).tl = C.gapR) (hb : Below wr.heap.size wr w2)
    (ho3 : OwnM w3 w1.heap.size v3 (l ++ [⟨pc f, rv⟩])) (hg3 : w2.grownBy w3 v.ownBlock) (hrv : RecsOwn w2 w1.heap.size rv (pc f).recs) : PsInv w1 w3 F pc (k + 1) v3 (l ++ [⟨pc f, rv⟩]) := by
  have hk : k < F.length := (List.getElem?_eq_some_iff.1 hf).1
  have ho2 := h.own.below hb
  refine ⟨hk, ho3, ?_, ?_, ?_, (bt h.bel hb).grown hg3 (bt h.bel hb).size (OwnM.ge ho2)⟩
  · intro x hx
    rcases List.mem_append.1 hx with hx | hx
    · exact ((h.recs x hx).below hb).grownM ho2 hg3
    · simp only [List.mem_singleton] at hx
      subst hx
      exact hrv.grownM ho2 hg3
  · rw [List.take_add_one, hf, List.map_append, List.map_append, List.filter_append, h.is]
    have : C.has (pc f) = true := by
      unfold C.has
      cases hq : (pc f).recs with
      | nil => exact absurd hq hr
      | cons a b => rfl
    simp [this]
  · intro x hx
    rw [List.take_add_one, hf] at hx
    rcases List.mem_append.1 hx with hx | hx
    · exact h.gap x hx
    · simp at hx; subst hx; exact hg
theorem encP_cells {w : World} {B : Nat} (x : Pm) (o : Obj) (hB : B = w.heap.size) (ho : o = .cells (encP x).toArray 66) : ∀ j u, (encP x)[j]? = some u → (w.alloc o).cell? (Addr.add ⟨B, 0, none⟩ j) = some u := by
  subst hB ho
  intro j u hj
  have := blk_cell (heap_alloc_new w (.cells (encP x).toArray 66)) j
  have e : Addr.add ⟨w.heap.size, 0, none⟩ j = ⟨w.heap.size, j, none⟩ := by
    simp only [Addr.add, Nat.zero_add]
    split
    · rename_i h0
      subst h0; rfl
    · rfl
  rw [e, this, List.getElem?_toArray, hj]
set_option maxRecDepth 100000 in
set_option maxHeartbeats 4000000 in
theorem pieces_any (w : World) (g : Nat) (S : Nat → Prop) (s : C.St) (pc : Nat → C.Pc) (hd : Disk w g S s) (hT : Tabs w) (hm : s.made ≤ 1000000) (hoff : s.off = false) (hpc : PcsOk s pc) :
    Calls Tryz.prog 26 #[.pointer (some ⟨g, 0, none⟩)] w fun e w' => PcsRet e w w' s pc ∧ Below w.heap.size w w' := by
  have HF : Hid _ := files_any w g S s hd hm
  rw [files_fs hoff] at HF
  have HD : Hid (Disk w g S s) := hd
  have HT : Hid (Tabs w) := hT
  have HPC : Hid (∀ k ∈ C.fs s, readE s (k : Int) = 0 ∧ readB s (k : Int) = (pc k).bytes ∧ (pc k).Ok ∧ (pc k).file = k ∧ (pc k).bytes.length ≤ 1048576) := by
    intro k hk
    obtain ⟨h1, h2⟩ := C.fs_mem hk
    obtain ⟨h3, h4, h5⟩ := hpc k h1 h2
    obtain ⟨h6, h7⟩ := read_fs hoff h1 h2
    refine ⟨h6, h7.trans h3, h4, h5, ?_⟩
    rw [← h3]
    have := C.dat_le s.ws k
    have := hd.ok.used
    have := hd.ok.room
    omega
  have HFL : Hid ((C.fs s).length ≤ 1000) := by
    show _ ≤ _
    exact Nat.le_trans (List.length_filter_le _ _) (by simp)
  unfold PcsRet
  generalize hF : C.fs s = F at HF HPC HFL ⊢
  clear hpc hoff hd hT hm hF
  go_enter Tryz.func26, Tryz.ntmps26
  go_wp2_with fail
  refine Calls.mono HF.out ?_
  rintro e w1 ⟨⟨p, n, c, rfl, hn, hz, hpb⟩, hb1⟩
  rw [List.length_map] at hn
  have HZ : Hid _ := hz
  have HB1 : Hid (Below w.heap.size w w1) := hb1
  have HNF : Hid (n = F.length) := hn
  clear hz hb1 hpb hn HF
  go_wp2
  go_loopw [4, 14] (fun v i wr => ∃ (k : Nat) (l : List Pm), i = .int .i64 k ∧ PsInv w1 wr F pc k v l) (fun _ i _ => F.length - (intOf i).toNat)
  case atStart => exact ⟨0, [], rfl, ⟨Nat.zero_le _, OwnM.nil _ _, (fun x hx => by cases hx), rfl, (fun x hx => by cases hx), Below.refl _ _⟩⟩
  case round =>
    obtain ⟨k, l, rfl, hinv⟩ := hrel
    have HI : Hid (PsInv w1 wr F pc k _ l) := hinv
    have hk := hinv.le
    obtain ⟨vp, vc, hv, hvc, _⟩ := OwnM.len hinv.own
    subst hv
    have hvc' : vc ≤ 9223372036854775807 := Nat.le_trans hvc (by decide)
    have hbw := hinv.bel
    have HBW : Hid (Below w1.heap.size w1 wr) := hbw
    have hfl := HFL.out
    have hnf := HNF.out
    clear hinv hbw hvc
    by_cases hlt : k < F.length
    · obtain ⟨f, hf⟩ : ∃ f, F[k]? = some f := ⟨F[k], by simp [hlt]⟩
      obtain ⟨b, o, rfl, hc⟩ := ZAt.below HZ.out HBW.out (by rw [List.length_map]; omega)
      have hck := hc k (by rw [List.length_map]; omega)
      have hgd : (List.map (fun k : Nat => (k : Int)) F).getD k 0 = (f : Int) := by
        simp [List.getD, hf]
      rw [hgd] at hck
      obtain ⟨e1, e2, e3, e4, e5⟩ := HPC.out f (List.mem_of_getElem? hf)
      have HRD : Hid _ := read_any wr g S s (f : Int) (Disk.below (Disk.below HD.out HB1.out) HBW.out)
      rw [e1, e2] at HRD
      have HOK : Hid ((pc f).Ok) := e3
      have HFI : Hid ((pc f).file = f) := e4
      have HBG : Hid _ := e5
      have HFK : Hid (F[k]? = some f) := hf
      have hki : (k : Int) < n := by omega
      clear hc hgd e1 e2 e3 e4 e5 hf hnf
      go_wp2_with fail
      refine Calls.mono HRD.out ?_
      rintro e w2 ⟨⟨v2, rfl, ho2⟩, hb2⟩
      have HB2 : Hid (Below wr.heap.size wr w2) := hb2
      have HPO : Hid _ := piece_own v2 wr.heap.size (pc f) w2 (Tabs.below (Tabs.below (Tabs.below HT.out HB1.out) HBW.out) hb2) ho2 HOK.out HBG.out
      rw [HFI.out] at HPO
      obtain ⟨p2, c2, rfl, _⟩ := Own.part ho2
      clear HRD hck ho2 hb2
      go_wp2_with fail
      refine Calls.mono HPO.out ?_
      rintro e w3 ⟨hr3, hb3⟩
      have hr3' : PieceRet e w2 w3 (pc f).file (pc f).age (pc f).first (pc f).recs (pc f).tl := by rw [HFI.out]; exact hr3
      have HB3 : Hid (Below w2.heap.size w2 w3) := hb3
      clear hr3 hb3 HPO
      rcases PieceRet.cases hr3' with ⟨hgap, rp, rc, hrc, hro, ⟨hnil, rfl⟩ | ⟨hne, rfl⟩⟩ | ⟨hbad, rfl⟩
      · have hl0 : (pc f).recs.length = 0 := by rw [hnil]; rfl
        have HGP : Hid _ := hgap
        have HNI : Hid _ := hnil
        have hrc' : rc ≤ 9223372036854775807 := Nat.le_trans hrc (by decide)
        rw [hl0]
        clear hgap hnil hr3' hro hrc hl0
        go_wp2
        go_roundw
        case rel => exact ⟨k + 1, l, rfl, PsInv.skip HI.out HFK.out HNI.out HGP.out (bt (bt HB2.out HB3.out) (below_new _ _))⟩
        case measure => simp [intOf]; omega
      · have hl0 : ¬ ((pc f).recs.length : Int) = 0 := fun h => hne (List.eq_nil_of_length_eq_zero (by omega))
        have hl1 : (0 : Int) < ((pc f).recs.length : Int) := by omega
        have HGP : Hid _ := hgap
        have HNE : Hid _ := hne
        have hrc' : rc ≤ 9223372036854775807 := Nat.le_trans hrc (by decide)
        have HRO : Hid (RecsOwn w3 w1.heap.size (.slice rp (pc f).recs.length rc) (pc f).recs) := hro.lower (Nat.le_trans HBW.out.size HB2.out.size)
        obtain ⟨y, hy⟩ : ∃ y : Pm, y = ⟨pc f, .slice rp (pc f).recs.length rc⟩ := ⟨_, rfl⟩
        have HPA : Hid (OwnM ((w3.alloc (.cells (encP y).toArray 66)).alloc (.cells (encP y).toArray 66)) w1.heap.size (.slice vp l.length vc) l) := OwnM.below (OwnM.below (OwnM.below (OwnM.below (PsInv.own HI.out) HB2.out) HB3.out) (below_new _ _)) (below_new _ _)
        have HY : Hid _ := encP_cells (w := w3.alloc (.cells (encP y).toArray 66)) (B := w3.heap.size + 1) y (.cells (encP y).toArray 66) (by simp) rfl
        have HPN : Hid (l.length ≤ 100000) := by show _ ≤ _; have := PsInv.len HI.out; omega
        have HBS : Hid (w1.heap.size ≤ ((w3.alloc (.cells (encP y).toArray 66)).alloc (.cells (encP y).toArray 66)).heap.size) := by
          show _ ≤ _
          have h1 := HBW.out.size
          have h2 := HB2.out.size
          have h3 := HB3.out.size
          simp; omega
        have HWB : Hid (Below wr.heap.size wr ((w3.alloc (.cells (encP y).toArray 66)).alloc (.cells (encP y).toArray 66))) := bt (bt (bt HB2.out HB3.out) (below_new _ _)) (below_new _ _)
        subst hy
        simp only [encP] at HPA HY HBS HWB
        clear hgap hne hr3' hro hrc
        go_wp2_with (at_builtin; go_must ((refine wpList_append_pm rfl _ _ rfl w1.heap.size _ l rfl HPA.out ⟨pc f, .slice rp (pc f).recs.length rc⟩ (w3.heap.size + 1) rfl HY.out rfl HPN.out HBS.out ?_; intro v4 w4 ho4 hg4; obtain ⟨p4, c4, hv4, hc4, _⟩ := OwnM.len ho4; have hc4' : c4 ≤ 9223372036854775807 := Nat.le_trans hc4 (by decide); have HO4 : Hid _ := ho4; have HG4 : Hid _ := hg4; clear ho4 hg4 hc4; subst hv4)))
        go_roundw
        case rel => exact ⟨k + 1, _, rfl, PsInv.next HI.out HFK.out HNE.out HGP.out HWB.out (by have h4 : OwnM w4 w1.heap.size (.slice p4 (l ++ [(⟨pc f, .slice rp (pc f).recs.length rc⟩ : Pm)]).length c4) (l ++ [⟨pc f, .slice rp (pc f).recs.length rc⟩]) := HO4.out; rw [show (l ++ [(⟨pc f, .slice rp (pc f).recs.length rc⟩ : Pm)]).length = l.length + 1 from by simp] at h4; exact h4) HG4.out ((HRO.out.below (below_new _ _)).below (below_new _ _))⟩
        case measure => simp [intOf]; omega
      · have HBD : Hid _ := hbad
        clear hbad hr3'
        go_wp2
        refine bodyPost_ret (v := .tuple #[.slice none 0 0, .int .i64 3]) (by simp [results, Tryz.results26, go_sem, *]) rfl ?_
        exact ⟨Or.inr ⟨⟨f, List.mem_of_getElem? HFK.out, HBD.out⟩, rfl⟩, bt (bt (bt (bt HB1.out HBW.out) HB2.out) HB3.out) (below_new _ _)⟩
    · have hki : ¬ (k : Int) < n := by omega
      have hke : k = F.length := by omega
      go_wp2
      refine bodyPost_ret (v := .tuple #[.slice vp l.length vc, .int .i64 0]) (by simp [results, Tryz.results26, go_sem, *]) rfl ?_
      have hI : PsInv w1 wr F pc k (.slice vp l.length vc) l := HI.out
      have hg := hI.gap
      have hi := hI.is
      rw [hke, List.take_length] at hg hi
      exact ⟨Or.inl ⟨hg, _, rfl, l, row_lower hI.own HB1.out.size, fun x hx => (hI.recs x hx).lower HB1.out.size, hi⟩, bt HB1.out HBW.out⟩
end Go.Proofs.YtnhplbdbgiimkaaGreatDoor

namespace Go.Proofs.YtnhplbdbgiimkaaGreatDoor
open Go.RowKit Go.Lib Go.Maps Go.Sort
set_option linter.unusedVariables false

set_option maxHeartbeats 2000000 in
theorem or_any (g : Nat) (a b : Int) (w : World) (h0 : w.cell? ⟨g, 0, none⟩ = some (.int .i64 a)) (h1 : w.cell? ⟨g, 1, none⟩ = some (.int .i64 b)) :
    Calls Tryz.prog 51 #[.slice (some ⟨g, 0, none⟩) 2 2] w fun e w' => e = .returned (.int .i64 (if a = 0 then b else a)) ∧ w' = w := by
  have H0 : Hid (w.cell? ⟨g, 0, none⟩ = some (.int .i64 a)) := h0
  have H1 : Hid (w.cell? ⟨g, 1, none⟩ = some (.int .i64 b)) := h1
  obtain ⟨r, hr⟩ : ∃ r, r = (if a = 0 then b else a) := ⟨_, rfl⟩
  have HR : Hid (r = (if a = 0 then b else a)) := hr
  rw [← hr]
  clear h0 h1 hr
  go_enter Tryz.func51, Tryz.ntmps51
  go_wp2_with fail
  go_loopw [8] (fun s8 wr => wr = w ∧ (s8 = .int .i64 0 ∨ (s8 = .int .i64 1 ∧ a = 0) ∨ (s8 = .int .i64 2 ∧ a = 0 ∧ b = 0))) (fun s8 _ => 2 - (intOf s8).toNat)
  case atStart => exact ⟨rfl, Or.inl rfl⟩
  case round =>
    obtain ⟨rfl, hs⟩ := hrel
    have y0 := H0.out
    have y1 := H1.out
    rcases hs with rfl | ⟨rfl, ha⟩ | ⟨rfl, ha, hb⟩
    · by_cases ha : a = 0
      · have hb : (a != 0) = false := by simp [ha]
        go_wp2
        go_roundw
        case rel => exact ⟨trivial, Or.inr (Or.inl ⟨rfl, ha⟩)⟩
        case measure => simp [intOf]
      · have hb : (a != 0) = true := by simp [ha]
        go_wp2
        go_ret
        have e := HR.out
        rw [if_neg ha] at e
        rw [e]
        first | exact ⟨rfl, rfl⟩ | exact ⟨rfl, trivial⟩
    · by_cases hb : b = 0
      · have hb' : (b != 0) = false := by simp [hb]
        go_wp2
        go_roundw
        case rel => exact ⟨trivial, Or.inr (Or.inr ⟨rfl, ha, hb⟩)⟩
        case measure => simp [intOf]
      · have hb' : (b != 0) = true := by simp [hb]
        go_wp2
        go_ret
        have e := HR.out
        rw [if_pos ha] at e
        rw [e]
        first | exact ⟨rfl, rfl⟩ | exact ⟨rfl, trivial⟩
    · go_wp2
      go_ret
      have e := HR.out
      rw [if_pos ha, hb] at e
      rw [e]
      first | exact ⟨rfl, rfl⟩ | exact ⟨rfl, trivial⟩
/-- The pieces of the newest age stay. -/
theorem n1_any (x : Pm) (ga : Nat) (w : World) (h : w.cell? ⟨ga, 0, none⟩ = some (.int .i64 (x.c.age : Nat))) :
    Calls Tryz.prog 48 #[.agg (encP x).toArray, .pointer (some ⟨ga, 0, none⟩)] w fun e w' => e = .returned (.bool false) ∧ Below w.heap.size w w' := by
  have hlt := World.block_lt_of_cell? _ _ h
  simp only at hlt
  have h2 : (w.alloc (.cells (encP x).toArray 66)).cell? ⟨ga, 0, none⟩ = some (.int .i64 (x.c.age : Nat)) := ((below_new w _).cell (p := ⟨ga, 0, none⟩) hlt).trans h
  have h3 := blk_cell (heap_alloc_new w (.cells (encP x).toArray 66)) 1
  simp only [encP, List.getElem?_toArray, List.getElem?_cons_succ, List.getElem?_cons_zero] at h3
  have hb := below_new w (.cells (encP x).toArray 66)
  have HB : Hid _ := hb
  simp only [encP] at h2 HB ⊢
  clear hb h
  go_enter Tryz.func48, Tryz.ntmps48
  go_wp2
  go_ret
  exact ⟨rfl, HB.out⟩
end Go.Proofs.YtnhplbdbgiimkaaGreatDoor
