/-
  Several texts in one: LMath3, LMath4, LMath5.
-/
import Derived.Test.YtnhplbdbgiimkaaGreatDoorZ2
namespace Go.Proofs.YtnhplbdbgiimkaaGreatDoor.C
set_option linter.unusedVariables false

/-- A new file with a chunk. -/
theorem LogW.addNew {s : St} {a : Nat} {G : List Gr} (h : LogW s a G) {f : Nat} (hf : ¬ f ∈ G.map Gr.file) {rs : List (List UInt8)} (hne : rs ≠ []) (hr : ∀ r ∈ rs, r.length ≤ 65536) (hG : 0 < a → G ≠ []) (hn : st a + (recsL (flat G)).length + rs.length ≤ 4294967296) :
    LogW (appS s f (ents a (st a + (recsL (flat G)).length) rs)) a (G ++ [⟨f, [⟨f, st a + (recsL (flat G)).length, rs, [], false⟩]⟩]) := by
  obtain ⟨c, hc⟩ : ∃ c : Ch, c = ⟨f, st a + (recsL (flat G)).length, rs, [], false⟩ := ⟨_, rfl⟩
  have hfl : flat (G ++ [⟨f, [c]⟩]) = flat G ++ [c] := by rw [flat_append]; rfl
  rw [← hc]
  have hrec : recsL (flat G ++ [c]) = recsL (flat G) ++ rs := by rw [recsL_append, hc]; simp [recsL]
  refine ⟨h.age, ?_, ⟨fun g hg => ?_, ?_⟩, ?_, ?_, fun d hd => ?_, fun d hd hs => ?_, ?_, fun k => ?_, ?_, fun h0 => ?_⟩
  · rw [hfl]
    show (s.ws ++ [_]).map wkey = _
    rw [List.map_append, List.map_append, h.ws, hc]
    simp [wkey, Ch.key, Ch.bytes]
  · rcases List.mem_append.1 hg with hg | hg
    · exact h.gs.each g hg
    · obtain rfl : g = ⟨f, [c]⟩ := by simpa using hg
      refine ⟨by simp, fun d hd => ?_⟩
      obtain rfl : d = c := by simpa using hd
      rw [hc]
  · rw [List.map_append]
    refine List.nodup_append.2 ⟨h.gs.nodup, by simp, fun x hx y hy e => ?_⟩
    obtain rfl : y = f := by simpa using hy
    exact hf (e ▸ hx)
  · rw [hfl]
    refine (chain_append _ _ _).2 ⟨h.chain, ?_, trivial⟩
    rw [hc]
  · rw [hfl]
    refine List.pairwise_append.2 ⟨h.torn, List.pairwise_singleton _ _, fun d hd e he htl hfe => ?_⟩
    obtain rfl : e = c := by simpa using he
    rw [hc] at hfe
    exact absurd (flat_file h.gs hd) (by rw [← hfe]; exact hf)
  · rw [hfl] at hd
    rcases List.mem_append.1 hd with hd | hd
    · exact h.ok d hd
    · obtain rfl : d = c := by simpa using hd
      rw [hc]
      exact ⟨hr, hn, rdE_nil⟩
  · rw [hfl] at hd
    rcases List.mem_append.1 hd with hd | hd
    · exact h.uns d hd hs
    · obtain rfl : d = c := by simpa using hd
      rw [hc]; exact ⟨rfl, hne⟩
  · rw [hfl]
    refine List.pairwise_append.2 ⟨h.ahead, List.pairwise_singleton _ _, fun d hd e he hs => ?_⟩
    obtain rfl : e = c := by simpa using he
    rw [hc] at hs; cases hs
  · simp only [appS, Bool.or_eq_true, beq_iff_eq, h.files k, List.map_append, List.mem_append, List.map_cons, List.map_nil, List.mem_singleton]
  · rw [hfl, hrec, List.length_append]; omega
  · obtain ⟨d, L, e, hs, hrd⟩ := h.base h0
    exact ⟨d, L ++ [c], by rw [hfl, e]; rfl, hs, hrd⟩
/-- A chunk behind the last file's. -/
theorem LogW.addTail {s : St} {a : Nat} {G : List Gr} {g : Gr} (h : LogW s a (G ++ [g])) (htl : ∀ c ∈ g.cs, c.tl = []) {rs : List (List UInt8)} (hne : rs ≠ []) (hr : ∀ r ∈ rs, r.length ≤ 65536) (hn : st a + (recsL (flat (G ++ [g]))).length + rs.length ≤ 4294967296) :
    LogW (appS s g.file (ents a (st a + (recsL (flat (G ++ [g]))).length) rs)) a (G ++ [⟨g.file, g.cs ++ [⟨g.file, st a + (recsL (flat (G ++ [g]))).length, rs, [], false⟩]⟩]) := by
  obtain ⟨c, hc⟩ : ∃ c : Ch, c = ⟨g.file, st a + (recsL (flat (G ++ [g]))).length, rs, [], false⟩ := ⟨_, rfl⟩
  rw [← hc]
  have hfl : flat (G ++ [⟨g.file, g.cs ++ [c]⟩]) = flat (G ++ [g]) ++ [c] := by
    rw [flat_append, flat_append]
    simp [flat]
  have hrec : recsL (flat (G ++ [g]) ++ [c]) = recsL (flat (G ++ [g])) ++ rs := by rw [recsL_append, hc]; simp [recsL]
  have hfs : (G ++ [(⟨g.file, g.cs ++ [c]⟩ : Gr)]).map Gr.file = (G ++ [g]).map Gr.file := by simp
  have hgm : g ∈ G ++ [g] := by simp
  refine ⟨h.age, ?_, ⟨fun x hx => ?_, by rw [hfs]; exact h.gs.nodup⟩, ?_, ?_, fun d hd => ?_, fun d hd hs => ?_, ?_, fun k => ?_, ?_, fun h0 => ?_⟩
  · rw [hfl]
    show (s.ws ++ [_]).map wkey = _
    rw [List.map_append, List.map_append, h.ws, hc]
    simp [wkey, Ch.key, Ch.bytes]
  · rcases List.mem_append.1 hx with hx | hx
    · exact h.gs.each x (List.mem_append_left _ hx)
    · obtain rfl : x = ⟨g.file, g.cs ++ [c]⟩ := by simpa using hx
      refine ⟨by simp, fun d hd => ?_⟩
      rcases List.mem_append.1 hd with hd | hd
      · exact (h.gs.each g hgm).2 d hd
      · obtain rfl : d = c := by simpa using hd
        rw [hc]
  · rw [hfl]
    refine (chain_append _ _ _).2 ⟨h.chain, ?_, trivial⟩
    rw [hc]
  · rw [hfl]
    refine List.pairwise_append.2 ⟨h.torn, List.pairwise_singleton _ _, fun d hd e he hdt hfe => ?_⟩
    obtain rfl : e = c := by simpa using he
    rw [hc] at hfe
    simp only at hfe
    rw [flat_append] at hd
    rcases List.mem_append.1 hd with hd | hd
    · have h1 := flat_file (G := G) ⟨fun x hx => h.gs.each x (List.mem_append_left _ hx), by have := h.gs.nodup; rw [List.map_append] at this; exact (List.nodup_append.1 this).1⟩ hd
      have h2 := h.gs.nodup
      rw [List.map_append] at h2
      exact absurd hfe.symm ((List.nodup_append.1 h2).2.2 _ h1 _ (by simp))
    · have : d ∈ g.cs := by simpa [flat] using hd
      exact absurd (htl d this) hdt
  · rw [hfl] at hd
    rcases List.mem_append.1 hd with hd | hd
    · exact h.ok d hd
    · obtain rfl : d = c := by simpa using hd
      rw [hc]
      exact ⟨hr, hn, rdE_nil⟩
  · rw [hfl] at hd
    rcases List.mem_append.1 hd with hd | hd
    · exact h.uns d hd hs
    · obtain rfl : d = c := by simpa using hd
      rw [hc]; exact ⟨rfl, hne⟩
  · rw [hfl]
    refine List.pairwise_append.2 ⟨h.ahead, List.pairwise_singleton _ _, fun d hd e he hs => ?_⟩
    obtain rfl : e = c := by simpa using he
    rw [hc] at hs; cases hs
  · rw [hfs]
    have := h.files k
    simp only [appS, Bool.or_eq_true, beq_iff_eq, this]
    constructor
    · rintro (h1 | rfl)
      · exact h1
      · exact List.mem_map_of_mem hgm
    · exact Or.inl
  · rw [hfl, hrec, List.length_append]; omega
  · obtain ⟨d, L, e, hs, hrd⟩ := h.base h0
    exact ⟨d, L ++ [c], by rw [hfl, e]; rfl, hs, hrd⟩
/-- All safe. -/
def Ch.sf (c : Ch) : Ch := { c with safe := true }
def Gr.sf (g : Gr) : Gr := ⟨g.file, g.cs.map Ch.sf⟩
theorem flat_mk : ∀ (G : List Gr), flat (G.map Gr.sf) = (flat G).map Ch.sf
  | [] => rfl
  | g :: G => by rw [List.map_cons, flat_cons, flat_cons, List.map_append, flat_mk G]; rfl
theorem recs_mk (L : List Ch) : recsL (L.map Ch.sf) = recsL L := by
  induction L with
  | nil => rfl
  | cons c L ih =>
    show c.recs ++ recsL (L.map Ch.sf) = c.recs ++ recsL L
    rw [ih]
theorem chain_mk : ∀ (L : List Ch) (n : Nat), Chain n L → Chain n (L.map Ch.sf)
  | [], _, _ => trivial
  | c :: L, n, h => ⟨h.1, chain_mk L _ h.2⟩
theorem LogW.allSafe {s s' : St} {a : Nat} {G : List Gr} (h : LogW s a G) (hw : s'.ws.map wkey = s.ws.map fun x => (x.file, x.bytes, true)) (hi : s'.is = s.is) : LogW s' a (G.map Gr.sf) ∧ recsL (flat (G.map Gr.sf)) = recsL (flat G) ∧ ∀ c ∈ flat (G.map Gr.sf), c.safe = true := by
  have hsafe : ∀ c ∈ flat (G.map Gr.sf), c.safe = true := fun c hc => by
    rw [flat_mk] at hc
    obtain ⟨d, _, rfl⟩ := List.mem_map.1 hc
    rfl
  have hfs : (G.map Gr.sf).map Gr.file = G.map Gr.file := by rw [List.map_map]; rfl
  refine ⟨⟨h.age, ?_, ⟨fun g hg => ?_, by rw [hfs]; exact h.gs.nodup⟩, ?_, ?_, fun c hc => ?_, fun c hc hs => ?_, ?_, fun k => by rw [hi, hfs]; exact h.files k, ?_, fun h0 => ?_⟩, by rw [flat_mk, recs_mk], hsafe⟩
  · rw [hw, flat_mk, List.map_map]
    have e1 : (s.ws.map fun x => (x.file, x.bytes, true)) = (s.ws.map wkey).map fun k => (k.1, k.2.1, true) := by rw [List.map_map]; rfl
    rw [e1, h.ws, List.map_map]; rfl
  · obtain ⟨x, hx, rfl⟩ := List.mem_map.1 hg
    obtain ⟨k1, k2⟩ := h.gs.each x hx
    refine ⟨fun e => k1 (by simpa [Gr.sf] using e), fun c hc => ?_⟩
    obtain ⟨d, hd, rfl⟩ := List.mem_map.1 hc
    exact k2 d hd
  · rw [flat_mk]; exact chain_mk _ _ h.chain
  · rw [flat_mk]; exact List.pairwise_map.2 h.torn
  · rw [flat_mk] at hc
    obtain ⟨d, hd, rfl⟩ := List.mem_map.1 hc
    have := h.ok d hd
    exact ⟨this.recs, this.num, this.tl⟩
  · have := hsafe c hc
    rw [hs] at this; cases this
  · exact List.pairwise_of_forall_mem_list fun c hc d hd _ => hsafe c hc
  · rw [flat_mk, recs_mk]; exact h.few
  · obtain ⟨c, L, e, _, hr⟩ := h.base h0
    exact ⟨c.sf, L.map Ch.sf, by rw [flat_mk, e]; rfl, rfl, hr⟩
/-- A base alone. -/
theorem LogW.kept {s : St} {a f num : Nat} {b : List UInt8} (ha : a + 1 < 4294967296) (hb : b.length ≤ 65536) (hws : s.ws.map wkey = [(f, ents (a + 1) 0 [b], true)]) (hi : ∀ k, s.is k = true ↔ k = f) : LogW s (a + 1) [⟨f, [⟨f, 0, [b], [], true⟩]⟩] := by
  have hst : st (a + 1) = 0 := if_neg (by omega)
  refine ⟨ha, ?_, ⟨fun g hg => ?_, by simp⟩, ?_, List.pairwise_singleton _ _, fun c hc => ?_, fun c hc hs => ?_, List.pairwise_singleton _ _, fun k => by rw [hi]; simp, ?_, fun _ => ⟨_, [], rfl, rfl, by simp⟩⟩
  · rw [hws]
    simp [flat, Ch.key, Ch.bytes]
  · obtain rfl : g = ⟨f, [⟨f, 0, [b], [], true⟩]⟩ := by simpa using hg
    exact ⟨by simp, fun c hc => by obtain rfl := (by simpa using hc : c = ⟨f, 0, [b], [], true⟩); rfl⟩
  · rw [hst]
    exact ⟨rfl, trivial⟩
  · obtain rfl : c = ⟨f, 0, [b], [], true⟩ := by simpa [flat] using hc
    exact ⟨fun r hr => by obtain rfl : r = b := by simpa using hr
                          exact hb, by simp, rdE_nil⟩
  · obtain rfl : c = ⟨f, 0, [b], [], true⟩ := by simpa [flat] using hc
    cases hs
  · rw [hst]; simp [flat, recsL]
theorem LogW.none {s : St} (hws : s.ws = []) (hi : ∀ k, s.is k = false) : LogW s 0 [] :=
  ⟨by decide, by rw [hws]; rfl, ⟨fun g hg => (by cases hg), List.nodup_nil⟩, trivial, List.Pairwise.nil, fun c hc => (by cases hc), fun c hc => (by cases hc), List.Pairwise.nil, fun k => by rw [hi]; simp, by simp [st, flat, recsL], fun h => absurd h (by omega)⟩
end Go.Proofs.YtnhplbdbgiimkaaGreatDoor.C

namespace Go.Proofs.YtnhplbdbgiimkaaGreatDoor
set_option linter.unusedVariables false

/-- What a file has of a log, and what is behind it. -/
structure C.Pc where
  file : Nat
  age : Nat
  first : Nat
  recs : List (List UInt8)
  tl : List UInt8
def C.Pc.fin (p : C.Pc) : Nat := (C.ents p.age p.first p.recs).length
def C.Pc.torn (p : C.Pc) : Bool := decide (p.tl ≠ [])
def C.Pc.bytes (p : C.Pc) : List UInt8 := C.ents p.age p.first p.recs ++ p.tl
structure C.Pc.Ok (p : C.Pc) : Prop where
  age : p.age < 4294967296
  first : p.first + p.recs.length ≤ 4294967296
  recs : ∀ r ∈ p.recs, r.length ≤ 65536
  tl : C.rdE p.tl = C.gapR ∨ C.rdE p.tl = C.badR
/-- The files. -/
def C.fs (s : C.St) : List Nat := (List.range 1000).filter s.is
theorem C.fs_mem {s : C.St} {k : Nat} (h : k ∈ C.fs s) : k < 1000 ∧ s.is k = true := by
  simpa [C.fs] using h
def C.has (p : C.Pc) : Bool := !p.recs.isEmpty
namespace C
def piecesG (a : Nat) : Nat → List Gr → List Pc
  | _, [] => []
  | q, g :: G => ⟨g.file, a, q, recsL g.cs, g.cs.flatMap Ch.tl⟩ :: piecesG a (q + (recsL g.cs).length) G
theorem piecesG_file (a : Nat) : ∀ (G : List Gr) (q : Nat), (piecesG a q G).map Pc.file = G.map Gr.file
  | [], _ => rfl
  | g :: G, q => by rw [piecesG, List.map_cons, List.map_cons, piecesG_file a G]
theorem piecesG_recs (a : Nat) : ∀ (G : List Gr) (q : Nat), (piecesG a q G).flatMap Pc.recs = recsL (flat G)
  | [], _ => rfl
  | g :: G, q => by rw [piecesG, List.flatMap_cons, piecesG_recs a G, flat_cons, recsL_append]
theorem piecesG_age (a : Nat) : ∀ (G : List Gr) (q : Nat), ∀ p ∈ piecesG a q G, p.age = a
  | [], _, p, hp => by cases hp
  | g :: G, q, p, hp => by
    rcases List.mem_cons.1 hp with rfl | hp
    · rfl
    · exact piecesG_age a G _ p hp
theorem piecesG_at (a : Nat) (ha : a < 4294967296) : ∀ (G : List Gr) (q : Nat), GOk G → Chain q (flat G) → Torn (flat G) → (∀ c ∈ flat G, c.Ok a) → q + (recsL (flat G)).length ≤ 4294967296 →
    ∀ p ∈ piecesG a q G, ∃ g ∈ G, p.file = g.file ∧ p.bytes = g.cs.flatMap (Ch.bytes a) ∧ p.Ok ∧ rdE p.tl = gapR
  | [], _, _, _, _, _, _, p, hp => by cases hp
  | g :: G, q, hg, hch, ht, hok, hn, p, hp => by
    rw [flat_cons] at hch ht hok hn
    obtain ⟨c1, c2⟩ := (chain_append q g.cs (flat G)).1 hch
    obtain ⟨t1, t2, _⟩ := List.pairwise_append.1 ht
    rw [recsL_append, List.length_append] at hn
    have hfile := (hg.each g (List.mem_cons_self ..)).2
    rcases List.mem_cons.1 hp with rfl | hp
    · have hgap := group_tl g.file g.cs t1 fun c hc => ⟨hfile c hc, (hok c (List.mem_append_left _ hc)).tl⟩
      refine ⟨g, List.mem_cons_self .., rfl, (group_bytes a g.file g.cs q c1 t1 hfile).symm, ⟨ha, by simp only; omega, fun r hr => ?_, Or.inl hgap⟩, hgap⟩
      obtain ⟨c, hc, hrc⟩ := List.mem_flatMap.1 hr
      exact (hok c (List.mem_append_left _ hc)).recs r hrc
    · obtain ⟨x, hx, h1⟩ := piecesG_at a ha G _ hg.tail c2 t2 (fun c hc => hok c (List.mem_append_right _ hc)) (by omega) p hp
      exact ⟨x, List.mem_cons_of_mem _ hx, h1⟩
def PChain : Nat → List Pc → Prop
  | _, [] => True
  | n, p :: l => p.first = n ∧ PChain (n + p.recs.length) l
theorem piecesG_chain (a : Nat) : ∀ (G : List Gr) (q : Nat), PChain q (piecesG a q G)
  | [], _ => trivial
  | g :: G, q => ⟨rfl, piecesG_chain a G _⟩
theorem PChain.filter : ∀ (l : List Pc) (n : Nat), PChain n l → PChain n (l.filter has)
  | [], _, _ => trivial
  | p :: l, n, h => by
    obtain ⟨h1, h2⟩ := h
    cases hp : has p with
    | true =>
      rw [List.filter_cons_of_pos hp]
      exact ⟨h1, PChain.filter l _ h2⟩
    | false =>
      have h0 : p.recs = [] := by
        unfold has at hp
        cases hr : p.recs with
        | nil => rfl
        | cons a b => rw [hr] at hp; simp at hp
      rw [List.filter_cons_of_neg (by rw [hp]; decide)]
      rw [h0] at h2
      exact PChain.filter l n h2
theorem PChain.ge : ∀ (l : List Pc) (n : Nat), PChain n l → ∀ p ∈ l, n ≤ p.first
  | [], _, _, p, hp => by cases hp
  | x :: l, n, h, p, hp => by
    rcases List.mem_cons.1 hp with rfl | hp
    · exact Nat.le_of_eq h.1.symm
    · have := PChain.ge l _ h.2 p hp
      omega
theorem PChain.lt : ∀ (l : List Pc) (n : Nat), PChain n l → (∀ p ∈ l, has p = true) → l.Pairwise fun p q => p.first < q.first
  | [], _, _, _ => List.Pairwise.nil
  | x :: l, n, h, hh => by
    refine List.pairwise_cons.2 ⟨fun p hp => ?_, PChain.lt l _ h.2 fun p hp => hh p (List.mem_cons_of_mem _ hp)⟩
    have h1 := PChain.ge l _ h.2 p hp
    have h2 := hh x (List.mem_cons_self ..)
    have h3 : 0 < x.recs.length := by
      unfold has at h2
      cases hr : x.recs with
      | nil => rw [hr] at h2; simp at h2
      | cons a b => simp
    have h4 := h.1
    omega
theorem recs_filter : ∀ (l : List Pc), (l.filter has).flatMap Pc.recs = l.flatMap Pc.recs
  | [] => rfl
  | p :: l => by
    cases hp : has p with
    | true => rw [List.filter_cons_of_pos hp, List.flatMap_cons, List.flatMap_cons, recs_filter l]
    | false =>
      have h0 : p.recs = [] := by
        unfold has at hp
        cases hr : p.recs with
        | nil => rfl
        | cons a b => rw [hr] at hp; simp at hp
      rw [List.filter_cons_of_neg (by rw [hp]; decide), List.flatMap_cons, h0, List.nil_append, recs_filter l]
/-- The row that the log is. -/
def rowG (a : Nat) (G : List Gr) : List Pc := (piecesG a (st a) G).filter has
def pcG (a : Nat) (G : List Gr) (k : Nat) : Pc := ((piecesG a (st a) G).find? fun p => p.file == k).getD ⟨k, a, 0, [], []⟩
theorem find_file : ∀ (l : List Pc), (l.map Pc.file).Nodup → ∀ p ∈ l, (l.find? fun x => x.file == p.file) = some p
  | [], _, p, hp => by cases hp
  | x :: l, hn, p, hp => by
    obtain ⟨h1, h2⟩ := List.nodup_cons.1 hn
    rcases List.mem_cons.1 hp with rfl | hp
    · simp
    · have hne : (x.file == p.file) = false := by
        simp only [beq_eq_false_iff_ne, ne_eq]
        intro e
        exact h1 (by rw [e]; exact List.mem_map_of_mem hp)
      rw [List.find?_cons_of_neg (by rw [hne]; decide)]
      exact find_file l h2 p hp
variable {s : St} {a : Nat} {G : List Gr}
theorem LogW.nodup (h : LogW s a G) : ((piecesG a (st a) G).map Pc.file).Nodup := by rw [piecesG_file]; exact h.gs.nodup
theorem LogW.pc (h : LogW s a G) {p : Pc} (hp : p ∈ piecesG a (st a) G) : pcG a G p.file = p := by
  unfold pcG
  rw [find_file _ h.nodup p hp]; rfl
/-- Each file is such a piece. -/
theorem LogW.pieces (h : LogW s a G) {k : Nat} (hk : s.is k = true) : ∃ p ∈ piecesG a (st a) G, p.file = k ∧ pcG a G k = p ∧ dat s.ws k = p.bytes ∧ p.Ok ∧ rdE p.tl = gapR := by
  have h1 := (h.files k).1 hk
  rw [← piecesG_file a G (st a)] at h1
  obtain ⟨p, hp, rfl⟩ := List.mem_map.1 h1
  obtain ⟨g, hg, e1, e2, e3, e4⟩ := piecesG_at a h.age G (st a) h.gs h.chain h.torn h.ok h.few p hp
  refine ⟨p, hp, rfl, h.pc hp, ?_, e3, e4⟩
  rw [dat_keys a _ s.ws _ h.ws, e1, group_dat a G h.gs g hg, e2]
theorem LogW.perm (h : LogW s a G) (hs : ∀ k, s.is k = true → k < 1000) : (((fs s).map (pcG a G)).filter has).Perm (rowG a G) := by
  refine List.Perm.filter _ ?_
  have h1 : (fs s).Perm (G.map Gr.file) := by
    refine (List.perm_ext_iff_of_nodup (List.Pairwise.filter _ List.nodup_range) h.gs.nodup).2 fun k => ?_
    rw [← h.files k]
    constructor
    · exact fun hk => (fs_mem hk).2
    · intro hk
      simp [hk, hs k hk]
  have h2 : (G.map Gr.file).map (pcG a G) = piecesG a (st a) G := by
    rw [← piecesG_file a G (st a), List.map_map]
    have : ∀ l : List Pc, (∀ p ∈ l, p ∈ piecesG a (st a) G) → l.map (pcG a G ∘ Pc.file) = l := fun l => by
      induction l with
      | nil => intro _; rfl
      | cons p l ih =>
        intro hl
        rw [List.map_cons, ih fun q hq => hl q (List.mem_cons_of_mem _ hq)]
        congr 1
        exact h.pc (hl p (List.mem_cons_self ..))
    exact this _ fun p hp => hp
  rw [← h2]
  exact h1.map _
theorem rowG_has : ∀ p ∈ rowG a G, has p = true := fun p hp => (List.mem_filter.1 hp).2
theorem rowG_chain : PChain (st a) (rowG a G) := PChain.filter _ _ (piecesG_chain a G _)
theorem rowG_recs : (rowG a G).flatMap Pc.recs = recsL (flat G) := by unfold rowG; rw [recs_filter, piecesG_recs]
theorem rowG_age : ∀ p ∈ rowG a G, p.age = a := fun p hp => piecesG_age a G _ p (List.mem_filter.1 hp).1
/-- Files without a whole entry may go. -/
theorem GOk.filter (h : GOk G) (f : Gr → Bool) : GOk (G.filter f) := ⟨fun g hg => h.each g (List.mem_filter.1 hg).1, h.nodup.sublist ((List.filter_sublist).map _)⟩
def hasG (g : Gr) : Bool := !(recsL g.cs).isEmpty
theorem hasG_false {g : Gr} (h : hasG g = false) : recsL g.cs = [] := by
  unfold hasG at h
  cases hr : recsL g.cs with
  | nil => rfl
  | cons a b => rw [hr] at h; simp at h
theorem chain_hasG : ∀ (G : List Gr) (n : Nat), Chain n (flat G) → Chain n (flat (G.filter hasG)) ∧ recsL (flat (G.filter hasG)) = recsL (flat G)
  | [], _, _ => ⟨trivial, rfl⟩
  | g :: G, n, h => by
    rw [flat_cons] at h
    obtain ⟨h1, h2⟩ := (chain_append n g.cs (flat G)).1 h
    cases hg : hasG g with
    | true =>
      obtain ⟨i1, i2⟩ := chain_hasG G _ h2
      rw [List.filter_cons_of_pos hg, flat_cons, flat_cons, recsL_append, recsL_append, i2]
      exact ⟨(chain_append n g.cs _).2 ⟨h1, i1⟩, rfl⟩
    | false =>
      have h0 := hasG_false hg
      rw [h0] at h2
      obtain ⟨i1, i2⟩ := chain_hasG G _ h2
      rw [List.filter_cons_of_neg (by rw [hg]; decide), flat_cons, recsL_append, h0, List.nil_append]
      exact ⟨i1, i2⟩
theorem flat_sub : ∀ (G : List Gr) (f : Gr → Bool), (flat (G.filter f)).Sublist (flat G)
  | [], _ => List.Sublist.refl _
  | g :: G, f => by
    by_cases hg : f g = true
    · rw [List.filter_cons_of_pos hg, flat_cons, flat_cons]
      exact (List.Sublist.refl _).append (flat_sub G f)
    · rw [List.filter_cons_of_neg hg, flat_cons]
      exact (flat_sub G f).trans (List.sublist_append_right _ _)
end C
end Go.Proofs.YtnhplbdbgiimkaaGreatDoor

namespace Go.Proofs.YtnhplbdbgiimkaaGreatDoor.C
set_option linter.unusedVariables false

theorem rowG_files (a : Nat) : ∀ (G : List Gr) (q : Nat), ((piecesG a q G).filter has).map Pc.file = (G.filter hasG).map Gr.file
  | [], _ => rfl
  | g :: G, q => by
    have e : has ⟨g.file, a, q, recsL g.cs, g.cs.flatMap Ch.tl⟩ = hasG g := rfl
    rw [piecesG]
    cases hg : hasG g with
    | true => rw [List.filter_cons_of_pos (by rw [e, hg]), List.filter_cons_of_pos hg, List.map_cons, List.map_cons, rowG_files a G]
    | false => rw [List.filter_cons_of_neg (by rw [e, hg]; decide), List.filter_cons_of_neg (by rw [hg]; decide), rowG_files a G]
theorem flat_filter (F : List Nat) (f : Gr → Bool) : ∀ (G : List Gr), (∀ g ∈ G, ∀ c ∈ g.cs, c.file = g.file) → (∀ g ∈ G, g.file ∈ F ↔ f g = true) → (flat G).filter (fun c => decide (c.file ∈ F)) = flat (G.filter f)
  | [], _, _ => rfl
  | g :: G, h, hF => by
    have hc := h g (List.mem_cons_self ..)
    have hg := hF g (List.mem_cons_self ..)
    have ih := flat_filter F f G (fun x hx => h x (List.mem_cons_of_mem _ hx)) fun x hx => hF x (List.mem_cons_of_mem _ hx)
    rw [flat_cons, List.filter_append, ih]
    by_cases hb : f g = true
    · rw [List.filter_cons_of_pos hb, flat_cons, List.filter_eq_self.2 fun c hcm => by rw [hc c hcm]; exact decide_eq_true (hg.2 hb)]
    · rw [List.filter_cons_of_neg hb, List.filter_eq_nil_iff.2 fun c hcm => by rw [hc c hcm]; simpa using fun e => hb (hg.1 e), List.nil_append]
theorem mem_filter_file {G : List Gr} (h : (G.map Gr.file).Nodup) (f : Gr → Bool) : ∀ g ∈ G, g.file ∈ (G.filter f).map Gr.file ↔ f g = true := by
  intro g hg
  constructor
  · intro hm
    obtain ⟨x, hx, e⟩ := List.mem_map.1 hm
    obtain ⟨h1, h2⟩ := List.mem_filter.1 hx
    have : x = g := by
      obtain ⟨i, hi⟩ := List.getElem?_of_mem h1
      obtain ⟨j, hj⟩ := List.getElem?_of_mem hg
      have hil := (List.getElem?_eq_some_iff.1 hi).1
      have hjl := (List.getElem?_eq_some_iff.1 hj).1
      have e1 : (G.map Gr.file)[i]? = some x.file := by rw [List.getElem?_map, hi]; rfl
      have e2 : (G.map Gr.file)[j]? = some g.file := by rw [List.getElem?_map, hj]; rfl
      have hij : i = j := (List.getElem?_inj (by rw [List.length_map]; exact hil) h).1 (by rw [e1, e2, e])
      subst hij
      rw [hi] at hj
      exact Option.some.inj hj
    rw [← this]; exact h2
  · intro hf
    exact List.mem_map_of_mem (List.mem_filter.2 ⟨hg, hf⟩)
theorem map_filter_key (a : Nat) (F : List Nat) : ∀ (ws : List Wr) (L : List Ch), ws.map wkey = L.map (Ch.key a) → (ws.filter fun x => decide (x.file ∈ F)).map wkey = (L.filter fun c => decide (c.file ∈ F)).map (Ch.key a)
  | [], L, h => by
    obtain rfl : L = [] := by simpa using h.symm
    rfl
  | x :: ws, L, h => by
    cases L with
    | nil => simp at h
    | cons c L =>
      simp only [List.map_cons, List.cons.injEq] at h
      obtain ⟨hx, h⟩ := h
      have hx' := hx
      simp only [wkey, Ch.key, Prod.mk.injEq] at hx
      have ih := map_filter_key a F ws L h
      by_cases hf : x.file ∈ F
      · rw [List.filter_cons_of_pos (by simpa using hf), List.filter_cons_of_pos (by rw [← hx.1]; simpa using hf), List.map_cons, List.map_cons, ih, hx']
      · rw [List.filter_cons_of_neg (by simpa using hf), List.filter_cons_of_neg (by rw [← hx.1]; simpa using hf), ih]
/-- Open: what is left. -/
theorem LogW.opened {s s' : St} {a : Nat} {G : List Gr} (h : LogW s a G) (hw : s'.ws = s.ws.filter fun x => decide (x.file ∈ (rowG a G).map Pc.file)) (hi : ∀ k, s'.is k = (s.is k && decide (k ∈ (rowG a G).map Pc.file))) :
    LogW s' a (G.filter hasG) ∧ recsL (flat (G.filter hasG)) = recsL (flat G) := by
  have hF : (rowG a G).map Pc.file = (G.filter hasG).map Gr.file := rowG_files a G _
  have hsub := flat_sub G hasG
  have hfl := flat_filter ((G.filter hasG).map Gr.file) hasG G (fun g hg => (h.gs.each g hg).2) (mem_filter_file h.gs.nodup hasG)
  obtain ⟨c1, c2⟩ := chain_hasG G _ h.chain
  refine ⟨⟨h.age, ?_, h.gs.filter hasG, c1, h.torn.sublist hsub, fun c hc => h.ok c (hsub.subset hc), fun c hc => h.uns c (hsub.subset hc), h.ahead.sublist hsub, fun k => ?_, by rw [c2]; exact h.few, fun h0 => ?_⟩, c2⟩
  · rw [hw, hF, map_filter_key a _ s.ws _ h.ws, hfl]
  · rw [hi, hF, Bool.and_eq_true, decide_eq_true_eq, h.files k]
    constructor
    · exact And.right
    · intro hk
      refine ⟨?_, hk⟩
      obtain ⟨g, hg, e⟩ := List.mem_map.1 hk
      rw [← e]
      exact List.mem_map_of_mem (List.mem_filter.1 hg).1
  · obtain ⟨c, L, e, hs, hr⟩ := h.base h0
    cases G with
    | nil => simp [flat] at e
    | cons g G =>
      obtain ⟨hn, _⟩ := h.gs.each g (List.mem_cons_self ..)
      rw [flat_cons] at e
      cases hcs : g.cs with
      | nil => exact absurd hcs hn
      | cons d ds =>
        rw [hcs, List.cons_append, List.cons.injEq] at e
        have hg : hasG g = true := by
          unfold hasG
          rw [hcs]
          show (!(d.recs ++ recsL ds).isEmpty) = true
          rw [e.1]
          cases hcr : c.recs with
          | nil => exact absurd hcr hr
          | cons x y => rfl
        refine ⟨d, ds ++ flat (G.filter hasG), by rw [List.filter_cons_of_pos hg, flat_cons, hcs]; rfl, by rw [e.1]; exact hs, by rw [e.1]; exact hr⟩
end Go.Proofs.YtnhplbdbgiimkaaGreatDoor.C
