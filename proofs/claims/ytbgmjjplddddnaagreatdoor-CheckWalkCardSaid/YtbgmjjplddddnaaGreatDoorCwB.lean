import Derived.Test.YtbgmjjplddddnaaGreatDoorCwA
set_option linter.unusedSimpArgs false
set_option linter.unusedVariables false
set_option maxRecDepth 100000
namespace Go.Proofs.YtbgmjjplddddnaaGreatDoor
open Go.Lift
def Tz0:LT:={ live:=[(4,[0,3]),(9,[0,3,4])],keep:=[] }
noncomputable def Ez0:Bn:={ tab:=tab,fs:=[],inl:=[] }
noncomputable def QJi (v:Y73):St:={ s:=[(0,(.val ⟨wh,v.1⟩)),(3,(.val ⟨Z2,v.2.1⟩)),(4,(.val ⟨Z2,v.2.2⟩))],l:=[],k:=[],b:=4096 }
noncomputable def QFE (v:zi):St:={ s:=[(0,(.val ⟨wh,v.1⟩)),(3,(.val ⟨Z2,v.2⟩))],l:=[],k:=[],b:=4096 }
def mP (aI:zi->Option (Bool)) (aJ:Y73->Option (Bool)) (v:Y73):Option (Bool):=
 ((Nk v.1 v.2.1).bind fun x2=>(bif (decide (v.2.2 < (List.length x2.2.2.2.1:Int))) then ((Nk v.1 v.2.1).bind fun x3=>((Nk x3.2.2.2.1 v.2.2).bind fun x4=>(bif (decide ((List.length x4.1:Int) > 100)) then (some true) else (let x5:Int:=(IntKind.i64.wrap (v.2.2+1));(aJ (v.1,v.2.1,x5)))))) else (let x6:Int:=(IntKind.i64.wrap (v.2.1+1));(aI (v.1,x6)))))
def fV (N:Nat) (aI:zi->Option (Bool)) (aJ:Y73->Option (Bool)) (v:Y73):Option (Bool):=mP aI aJ v
theorem QWl (N:Nat) (s0:St->Option (Bool)) (s1:St->Option (Bool)) (v):(ZR (Ez0) Tz0 6 N Tryz.f55 [.bool] [false] [] 1 (Yx s0 Xv)) s1 (QJi v)=fV N (fun v=>s0 (QFE v)) (fun v=>s1 (QJi v)) v:=by kernel_rfl
def dw (bH:Y73->Option (Bool)) (aI:zi->Option (Bool)) (v:zi):Option (Bool):=
 (bif (decide (v.2 < (List.length v.1:Int))) then ((Nk v.1 v.2).bind fun x1=>(bif (decide ((List.length x1.2.2.2.1:Int) > 20)) then (some true) else (bH (v.1,v.2,(0:Int))))) else (some false))
def mD (N:Nat) (aI:zi->Option (Bool)) (v:zi):Option (Bool):=dw (Gb (fV N aI) N) aI v
theorem QWk (N:Nat) (s0:St->Option (Bool)) (v):(ZR (Ez0) Tz0 6 N Tryz.f55 [.bool] [false] [] 0 Xv) s0 (QFE v)=mD N (fun v=>s0 (QFE v)) v:=Eq.trans (b:=dw (fun v=>Ot (ZR (Ez0) Tz0 6 N Tryz.f55 [.bool] [false] [] 1 (Yx s0 Xv)) N (QJi v)) (fun v=>s0 (QFE v)) v) (by kernel_rfl) (by rw [funext (Tf QJi (QWl N s0) N)];rfl)
def vI (aL:zi->Option (Bool)) (x:aG):Option (Bool):=
 (bif (decide ((List.length x:Int) > 40)) then (some true) else (aL (x,(0:Int))))
def QBv (N:Nat) (x:aG):Option (Bool):=vI (Gb (mD N) N) x
theorem lz0 (N:Nat) (x:aG):rise (Ez0) Tz0 6 N Tryz.f55 [wh] [.bool] [false] x=QBv N x:=Eq.trans (b:=vI (fun v=>Ot (ZR (Ez0) Tz0 6 N Tryz.f55 [.bool] [false] [] 0 Xv) N (QFE v)) x) (by kernel_rfl) (by rw [funext (Tf QFE (QWk N) N)];rfl)
def zH (x:aG):Option (Bool):=QBv big x
def Gz0:U0:=⟨[wh],[.bool],[false],fun x=>zH x⟩
theorem Lz0:Hw Tryz.prog 55 Gz0:=rz (E:=Ez0) ⟨aM,Yc,fun _ _ _=>rfl,mixed,Yt,Y0,Yz⟩ Tryz.func55 fun _ _ h=>(lz0 big _).trans h
def Tz1:LT:={ live:=[(4,[1,3]),(10,[1,4,5]),(17,[1,4,5,6,7])],keep:=[] }
noncomputable def Ez1:Bn:={ tab:=tab,fs:=[(55,Gz0)],inl:=[] }
noncomputable def QJk (v:Y46):St:={ s:=[(1,(.loc 0 [])),(4,(.val ⟨Z2,v.1⟩)),(5,(.val ⟨Z2,v.2.1⟩)),(6,(.loc 1 [])),(7,(.val ⟨Z2,v.2.2.1⟩))],l:=[(0,.var Z1 (.val ⟨Z1,v.2.2.2.1⟩)),(1,.var Z0 (.val ⟨Z0,v.2.2.2.2⟩))],k:=[],b:=4096 }
noncomputable def QFF (v:Y74):St:={ s:=[(1,(.loc 0 [])),(4,(.val ⟨Z2,v.1⟩)),(5,(.val ⟨Z2,v.2.1⟩))],l:=[(0,.var Z1 (.val ⟨Z1,v.2.2⟩))],k:=[],b:=4096 }
noncomputable def QD3 (v:Y83):St:={ s:=[(1,(.loc 0 [])),(3,(.val ⟨Z2,v.1⟩))],l:=[(0,.var Z1 (.val ⟨Z1,v.2⟩))],k:=[],b:=4096 }
def wF (aI:Y83->Option (Bool)) (aJ:Y74->Option (Bool)) (bL:Y46->Option (Bool)) (v:Y46):Option (Bool):=
 (bif (decide (v.2.2.1 < (List.length v.2.2.2.2.2.2.2.1:Int))) then ((Nk v.2.2.2.2.2.2.2.1 v.2.2.1).bind fun x6=>(bif (decide ((List.length x6.1:Int) > 100)) then (some true) else (let x7:Int:=(IntKind.i64.wrap (v.2.2.1+1));(bL (v.1,v.2.1,x7,v.2.2.2.1,v.2.2.2.2))))) else (let x8:Int:=(IntKind.i64.wrap (v.2.1+1));(aJ (v.1,x8,v.2.2.2.1))))
def jS (N:Nat) (aI:Y83->Option (Bool)) (aJ:Y74->Option (Bool)) (bL:Y46->Option (Bool)) (v:Y46):Option (Bool):=wF aI aJ bL v
theorem QWp (N:Nat) (s0:St->Option (Bool)) (s1:St->Option (Bool)) (s2:St->Option (Bool)) (v):(ZR (Ez1) Tz1 6 N Tryz.f18 [.bool] [false] [] 2 (Yx s1 Xv)) s2 (QJk v)=jS N (fun v=>s0 (QD3 v)) (fun v=>s1 (QFF v)) (fun v=>s2 (QJk v)) v:=by kernel_rfl
def ql (QAI:Y46->Option (Bool)) (aI:Y83->Option (Bool)) (aJ:Y74->Option (Bool)) (v:Y74):Option (Bool):=
 (bif (decide (v.2.1 < (List.length v.2.2.2.2.1:Int))) then ((Nk v.2.2.2.2.1 v.2.1).bind fun x4=>(let x5:Int:=(IntKind.i64.wrap (v.1+(List.length x4.2.2.2.2.1:Int)));(bif (decide ((List.length x4.1:Int) > 100)) then (some true) else (bif (decide ((List.length x4.2.2.2.1:Int) > 20)) then (some true) else (bif (decide ((List.length x4.2.2.2.2.1:Int) > 210)) then (some true) else (bif (decide ((List.length x4.2.2.2.2.2.1:Int) > 210)) then (some true) else (bif (decide ((List.length x4.2.2.2.2.2.2.1:Int) > 210)) then (some true) else (bif (decide (x5 > 1000)) then (some true) else (QAI (x5,v.2.1,(0:Int),v.2.2,x4)))))))))) else (some false))
def jR (N:Nat) (aI:Y83->Option (Bool)) (aJ:Y74->Option (Bool)) (v:Y74):Option (Bool):=ql (Gb (jS N aI aJ) N) aI aJ v
theorem QWo (N:Nat) (s0:St->Option (Bool)) (s1:St->Option (Bool)) (v):(ZR (Ez1) Tz1 6 N Tryz.f18 [.bool] [false] [] 1 Xv) s1 (QFF v)=jR N (fun v=>s0 (QD3 v)) (fun v=>s1 (QFF v)) v:=Eq.trans (b:=ql (fun v=>Ot (ZR (Ez1) Tz1 6 N Tryz.f18 [.bool] [false] [] 2 (Yx s1 Xv)) N (QJk v)) (fun v=>s0 (QD3 v)) (fun v=>s1 (QFF v)) v) (by kernel_rfl) (by rw [funext (Tf QJk (QWp N s0 s1) N)];rfl)
def qj (bH:Y74->Option (Bool)) (aI:Y83->Option (Bool)) (v:Y83):Option (Bool):=
 (bif (decide (v.1 < (List.length v.2.2.1:Int))) then ((Nk v.2.2.1 v.1).bind fun x2=>(bif (decide ((List.length x2:Int) > 100)) then (some true) else (let x3:Int:=(IntKind.i64.wrap (v.1+1));(aI (x3,v.2))))) else (bH ((0:Int),(0:Int),v.2)))
def jQ (N:Nat) (aI:Y83->Option (Bool)) (v:Y83):Option (Bool):=qj (Gb (jR N aI) N) aI v
theorem QWn (N:Nat) (s0:St->Option (Bool)) (v):(ZR (Ez1) Tz1 6 N Tryz.f18 [.bool] [false] [] 0 Xv) s0 (QD3 v)=jQ N (fun v=>s0 (QD3 v)) v:=Eq.trans (b:=qj (fun v=>Ot (ZR (Ez1) Tz1 6 N Tryz.f18 [.bool] [false] [] 1 Xv) N (QFF v)) (fun v=>s0 (QD3 v)) v) (by kernel_rfl) (by rw [funext (Tf QFF (QWo N s0) N)];rfl)
def vQ (aL:Y83->Option (Bool)) (x:Zx):Option (Bool):=
 ((zH x.1).bind fun x1=>(bif x1 then (some true) else (bif (decide ((List.length x.2.1:Int) > 40)) then (some true) else (bif (decide ((List.length x.2.2.1:Int) > 40)) then (some true) else (aL ((0:Int),x))))))
def QC5 (N:Nat) (x:Zx):Option (Bool):=vQ (Gb (jQ N) N) x
theorem lz1 (N:Nat) (x:Zx):rise (Ez1) Tz1 6 N Tryz.f18 [Z1] [.bool] [false] x=QC5 N x:=Eq.trans (b:=vQ (fun v=>Ot (ZR (Ez1) Tz1 6 N Tryz.f18 [.bool] [false] [] 0 Xv) N (QD3 v)) x) (by kernel_rfl) (by rw [funext (Tf QD3 (QWn N) N)];rfl)
def zL (x:Zx):Option (Bool):=QC5 big x
def Gz1:U0:=⟨[Z1],[.bool],[false],fun x=>zL x⟩
theorem Lz1:Hw Tryz.prog 18 Gz1:=rz (E:=Ez1) ⟨aM,(YH Lz0 Yc),fun _ _ _=>rfl,mixed,Yt,Y0,Yz⟩ Tryz.func18 fun _ _ h=>(lz1 big _).trans h
def Tz2:LT:={ live:=[],keep:=[] }
noncomputable def Ez2:Bn:={ tab:=tab,fs:=[],inl:=[] }
def yH (x:Int):Option (Bool):=
 (bif (decide (x≥97)) then (bif (decide (x<=122)) then (some true) else (bif (decide (x≥65)) then (some (decide (x<=90))) else (some false))) else (bif (decide (x≥65)) then (some (decide (x<=90))) else (some false)))
def oI (x:Int):Option (Bool):=yH x
def Gz2:U0:=⟨[mo],[.bool],[false],fun x=>oI x⟩
theorem Lz2:Hw Tryz.prog 176 Gz2:=rz (E:=Ez2) (lt:=Tz2) (lv:=6) (N:=big) ⟨aM,Yc,fun _ _ _=>rfl,mixed,Yt,Y0,Yz⟩ Tryz.func176 fun x _ h=>Eq.trans (b:=oI x) (by kernel_rfl) h
def Tz3:LT:={ live:=[(4,[0,3])],keep:=[] }
noncomputable def Ez3:Bn:={ tab:=tab,fs:=[(176,Gz2)],inl:=[] }
noncomputable def QJl (v:Zy×Int):St:={ s:=[(0,(.val ⟨.str,v.1⟩)),(3,(.val ⟨Z2,v.2⟩))],l:=[],k:=[],b:=4096 }
def mQ (aI:Zy×Int->Option (Bool)) (v:Zy×Int):Option (Bool):=
 (bif (decide (v.2 < (List.length v.1:Int))) then ((Nk v.1 v.2).bind fun x3=>((oI x3).bind fun x4=>(bif (!x4) then ((Nk v.1 v.2).bind fun x5=>(bif (decide (x5 < 48)) then (some false) else ((Nk v.1 v.2).bind fun x6=>(bif (decide (x6 > 57)) then (some false) else (let x7:Int:=(IntKind.i64.wrap (v.2+1));(aI (v.1,x7))))))) else (let x8:Int:=(IntKind.i64.wrap (v.2+1));(aI (v.1,x8)))))) else (some true))
def qO (N:Nat) (aI:Zy×Int->Option (Bool)) (v:Zy×Int):Option (Bool):=mQ aI v
theorem QWq (N:Nat) (s0:St->Option (Bool)) (v):(ZR (Ez3) Tz3 6 N Tryz.f145 [.bool] [false] [] 0 Xv) s0 (QJl v)=qO N (fun v=>s0 (QJl v)) v:=by kernel_rfl
def vJ (aL:Zy×Int->Option (Bool)) (x:Zy):Option (Bool):=
 (bif (decide ((List.length x:Int) < 1)) then (some false) else (bif (decide ((List.length x:Int) > 16)) then (some false) else ((Nk x (0:Int)).bind fun x1=>((oI x1).bind fun x2=>(bif (!x2) then (some false) else (aL (x,(0:Int))))))))
def QBw (N:Nat) (x:Zy):Option (Bool):=vJ (Gb (qO N) N) x
theorem lz3 (N:Nat) (x:Zy):rise (Ez3) Tz3 6 N Tryz.f145 [.str] [.bool] [false] x=QBw N x:=Eq.trans (b:=vJ (fun v=>Ot (ZR (Ez3) Tz3 6 N Tryz.f145 [.bool] [false] [] 0 Xv) N (QJl v)) x) (by kernel_rfl) (by rw [funext (Tf QJl (QWq N) N)];rfl)
def uY (x:Zy):Option (Bool):=QBw big x
def Gz3:U0:=⟨[.str],[.bool],[false],fun x=>uY x⟩
theorem Lz3:Hw Tryz.prog 145 Gz3:=rz (E:=Ez3) ⟨aM,(YH Lz2 Yc),fun _ _ _=>rfl,mixed,Yt,Y0,Yz⟩ Tryz.func145 fun _ _ h=>(lz3 big _).trans h
def Tz4:LT:={ live:=[(4,[0,5]),(9,[0,5,6])],keep:=[] }
noncomputable def Ez4:Bn:={ tab:=tab,fs:=[(145,Gz3)],inl:=[] }
noncomputable def QJm (v:aC×Int×Int):St:={ s:=[(0,(.val ⟨Z9,v.1⟩)),(5,(.val ⟨Z2,v.2.1⟩)),(6,(.val ⟨Z2,v.2.2⟩))],l:=[],k:=[],b:=4096 }
noncomputable def QFG (v:aC×Int):St:={ s:=[(0,(.val ⟨Z9,v.1⟩)),(5,(.val ⟨Z2,v.2⟩))],l:=[],k:=[],b:=4096 }
def fB (aI:aC×Int->Option (Bool)) (aJ:aC×Int×Int->Option (Bool)) (v:aC×Int×Int):Option (Bool):=
 (bif (decide (v.2.2 < v.2.1)) then ((Nk v.1 v.2.2).bind fun x3=>((Nk v.1 v.2.1).bind fun x4=>(bif (JW .str x3.1 x4.1) then (some false) else (let x5:Int:=(IntKind.i64.wrap (v.2.2+1));(aJ (v.1,v.2.1,x5)))))) else (let x6:Int:=(IntKind.i64.wrap (v.2.1+1));(aI (v.1,x6))))
def bX (N:Nat) (aI:aC×Int->Option (Bool)) (aJ:aC×Int×Int->Option (Bool)) (v:aC×Int×Int):Option (Bool):=fB aI aJ v
theorem QWs (N:Nat) (s0:St->Option (Bool)) (s1:St->Option (Bool)) (v):(ZR (Ez4) Tz4 6 N Tryz.f146 [.bool] [false] [] 1 (Yx s0 Xv)) s1 (QJm v)=bX N (fun v=>s0 (QFG v)) (fun v=>s1 (QJm v)) v:=by kernel_rfl
def bG (bH:aC×Int×Int->Option (Bool)) (aI:aC×Int->Option (Bool)) (v:aC×Int):Option (Bool):=
 (bif (decide (v.2 < (List.length v.1:Int))) then ((Nk v.1 v.2).bind fun x1=>((uY x1.1).bind fun x2=>(bif (!x2) then (some false) else (bH (v.1,v.2,(0:Int)))))) else (some true))
def bW (N:Nat) (aI:aC×Int->Option (Bool)) (v:aC×Int):Option (Bool):=bG (Gb (bX N aI) N) aI v
theorem QWr (N:Nat) (s0:St->Option (Bool)) (v):(ZR (Ez4) Tz4 6 N Tryz.f146 [.bool] [false] [] 0 Xv) s0 (QFG v)=bW N (fun v=>s0 (QFG v)) v:=Eq.trans (b:=bG (fun v=>Ot (ZR (Ez4) Tz4 6 N Tryz.f146 [.bool] [false] [] 1 (Yx s0 Xv)) N (QJm v)) (fun v=>s0 (QFG v)) v) (by kernel_rfl) (by rw [funext (Tf QJm (QWs N s0) N)];rfl)
def kZ (aL:aC×Int->Option (Bool)) (x:aC×Int):Option (Bool):=
 (bif (decide ((List.length x.1:Int) > x.2)) then (some false) else (aL (x.1,(0:Int))))
def QAv (N:Nat) (x:aC×Int):Option (Bool):=kZ (Gb (bW N) N) x
theorem lz4 (N:Nat) (x:aC×Int):rise (Ez4) Tz4 6 N Tryz.f146 [Z9,Z2] [.bool] [false] x=QAv N x:=Eq.trans (b:=kZ (fun v=>Ot (ZR (Ez4) Tz4 6 N Tryz.f146 [.bool] [false] [] 0 Xv) N (QFG v)) x) (by kernel_rfl) (by rw [funext (Tf QFG (QWr N) N)];rfl)
def oH (x:aC×Int):Option (Bool):=QAv big x
def Gz4:U0:=⟨[Z9,Z2],[.bool],[false],fun x=>oH x⟩
theorem Lz4:Hw Tryz.prog 146 Gz4:=rz (E:=Ez4) ⟨aM,(YH Lz3 Yc),fun _ _ _=>rfl,mixed,Yt,Y0,Yz⟩ Tryz.func146 fun _ _ h=>(lz4 big _).trans h
def Tz5:LT:={ live:=[(14,[1,5,6])],keep:=[] }
noncomputable def Ez5:Bn:={ tab:=tab,fs:=[(146,Gz4)],inl:=[] }
noncomputable def QJn (v:Int×Int×Zz):St:={ s:=[(1,(.val ⟨Z2,v.1⟩)),(5,(.loc 0 [])),(6,(.val ⟨Z2,v.2.1⟩))],l:=[(0,.var Z4 (.val ⟨Z4,v.2.2⟩))],k:=[],b:=4096 }
def oN (aI:Int×Int×Zz->Option (Bool)) (v:Int×Int×Zz):Option (Bool):=
 (bif (decide (v.2.1 < (List.length v.2.2.2.2.2.1:Int))) then ((Nk v.2.2.2.2.2.1 v.2.1).bind fun x2=>(bif (decide (x2.2.1 < 0)) then (some false) else ((Nk v.2.2.2.2.2.1 v.2.1).bind fun x3=>(bif (decide (x3.2.1≥v.1)) then (some false) else (let x4:Int:=(IntKind.i64.wrap (v.2.1+1));(aI (v.1,x4,v.2.2))))))) else (bif (v.2.2.2.1==0) then (bif (v.2.2.2.2.1==0) then (bif (decide ((List.length v.2.2.2.2.2.1:Int) > 0)) then ((oH (v.2.2.2.2.2.1,(8:Int))).bind fun x5=>(some x5)) else (some false)) else (some false)) else (some false)))
def kS (N:Nat) (aI:Int×Int×Zz->Option (Bool)) (v:Int×Int×Zz):Option (Bool):=oN aI v
theorem QWt (N:Nat) (s0:St->Option (Bool)) (v):(ZR (Ez5) Tz5 6 N Tryz.f143 [.bool] [false] [] 0 Xv) s0 (QJn v)=kS N (fun v=>s0 (QJn v)) v:=by kernel_rfl
def xP (aL:Int×Int×Zz->Option (Bool)) (x:zi):Option (Bool):=
 ((Nk x.1 x.2).bind fun x1=>(bif (x1.1==1) then (bif (x1.1==1) then (bif (x1.2.1==0) then (bif (x1.2.2.1==0) then (some ((List.length x1.2.2.2.1:Int)==0)) else (some false)) else (some false)) else (bif (x1.1==4) then (bif (x1.1==4) then (bif (decide (x1.2.1≥0)) then (bif (decide (x1.2.1 < (List.length x.1:Int))) then (bif (x1.2.2.1==0) then (some ((List.length x1.2.2.2.1:Int)==0)) else (some false)) else (some false)) else (some false)) else (bif (x1.1==6) then (bif (decide (x1.2.1≥0)) then (bif (decide (x1.2.1 < x.2)) then (bif (decide (x1.2.2.1≥1)) then (bif (decide (x1.2.2.1<=16)) then (some ((List.length x1.2.2.2.1:Int)==0)) else (some false)) else (some false)) else (some false)) else (some false)) else (bif (x1.1==5) then (aL (x.2,(0:Int),x1)) else (some false)))) else (bif (x1.1==7) then (bif (decide (x1.2.1≥0)) then (bif (decide (x1.2.1 < (List.length x.1:Int))) then (bif (x1.2.2.1==0) then (some ((List.length x1.2.2.2.1:Int)==0)) else (some false)) else (some false)) else (some false)) else (bif (x1.1==6) then (bif (decide (x1.2.1≥0)) then (bif (decide (x1.2.1 < x.2)) then (bif (decide (x1.2.2.1≥1)) then (bif (decide (x1.2.2.1<=16)) then (some ((List.length x1.2.2.2.1:Int)==0)) else (some false)) else (some false)) else (some false)) else (some false)) else (bif (x1.1==5) then (aL (x.2,(0:Int),x1)) else (some false)))))) else (bif (x1.1==2) then (bif (x1.1==2) then (bif (x1.2.1==0) then (bif (x1.2.2.1==0) then (some ((List.length x1.2.2.2.1:Int)==0)) else (some false)) else (some false)) else (bif (x1.1==4) then (bif (x1.1==4) then (bif (decide (x1.2.1≥0)) then (bif (decide (x1.2.1 < (List.length x.1:Int))) then (bif (x1.2.2.1==0) then (some ((List.length x1.2.2.2.1:Int)==0)) else (some false)) else (some false)) else (some false)) else (bif (x1.1==6) then (bif (decide (x1.2.1≥0)) then (bif (decide (x1.2.1 < x.2)) then (bif (decide (x1.2.2.1≥1)) then (bif (decide (x1.2.2.1<=16)) then (some ((List.length x1.2.2.2.1:Int)==0)) else (some false)) else (some false)) else (some false)) else (some false)) else (bif (x1.1==5) then (aL (x.2,(0:Int),x1)) else (some false)))) else (bif (x1.1==7) then (bif (decide (x1.2.1≥0)) then (bif (decide (x1.2.1 < (List.length x.1:Int))) then (bif (x1.2.2.1==0) then (some ((List.length x1.2.2.2.1:Int)==0)) else (some false)) else (some false)) else (some false)) else (bif (x1.1==6) then (bif (decide (x1.2.1≥0)) then (bif (decide (x1.2.1 < x.2)) then (bif (decide (x1.2.2.1≥1)) then (bif (decide (x1.2.2.1<=16)) then (some ((List.length x1.2.2.2.1:Int)==0)) else (some false)) else (some false)) else (some false)) else (some false)) else (bif (x1.1==5) then (aL (x.2,(0:Int),x1)) else (some false)))))) else (bif (x1.1==3) then (bif (x1.2.1==0) then (bif (x1.2.2.1==0) then (some ((List.length x1.2.2.2.1:Int)==0)) else (some false)) else (some false)) else (bif (x1.1==4) then (bif (x1.1==4) then (bif (decide (x1.2.1≥0)) then (bif (decide (x1.2.1 < (List.length x.1:Int))) then (bif (x1.2.2.1==0) then (some ((List.length x1.2.2.2.1:Int)==0)) else (some false)) else (some false)) else (some false)) else (bif (x1.1==6) then (bif (decide (x1.2.1≥0)) then (bif (decide (x1.2.1 < x.2)) then (bif (decide (x1.2.2.1≥1)) then (bif (decide (x1.2.2.1<=16)) then (some ((List.length x1.2.2.2.1:Int)==0)) else (some false)) else (some false)) else (some false)) else (some false)) else (bif (x1.1==5) then (aL (x.2,(0:Int),x1)) else (some false)))) else (bif (x1.1==7) then (bif (decide (x1.2.1≥0)) then (bif (decide (x1.2.1 < (List.length x.1:Int))) then (bif (x1.2.2.1==0) then (some ((List.length x1.2.2.2.1:Int)==0)) else (some false)) else (some false)) else (some false)) else (bif (x1.1==6) then (bif (decide (x1.2.1≥0)) then (bif (decide (x1.2.1 < x.2)) then (bif (decide (x1.2.2.1≥1)) then (bif (decide (x1.2.2.1<=16)) then (some ((List.length x1.2.2.2.1:Int)==0)) else (some false)) else (some false)) else (some false)) else (some false)) else (bif (x1.1==5) then (aL (x.2,(0:Int),x1)) else (some false)))))))))
def QDA (N:Nat) (x:zi):Option (Bool):=xP (Gb (kS N) N) x
theorem lz5 (N:Nat) (x:zi):rise (Ez5) Tz5 6 N Tryz.f143 [wh,Z2] [.bool] [false] x=QDA N x:=Eq.trans (b:=xP (fun v=>Ot (ZR (Ez5) Tz5 6 N Tryz.f143 [.bool] [false] [] 0 Xv) N (QJn v)) x) (by kernel_rfl) (by rw [funext (Tf QJn (QWt N) N)];rfl)
def QAC (x:zi):Option (Bool):=QDA big x
def Gz5:U0:=⟨[wh,Z2],[.bool],[false],fun x=>QAC x⟩
theorem Lz5:Hw Tryz.prog 143 Gz5:=rz (E:=Ez5) ⟨aM,(YH Lz4 Yc),fun _ _ _=>rfl,mixed,Yt,Y0,Yz⟩ Tryz.func143 fun _ _ h=>(lz5 big _).trans h
def Tz6:LT:={ live:=[(5,[1,3,4])],keep:=[] }
noncomputable def Ez6:Bn:={ tab:=tab,fs:=[],inl:=[] }
noncomputable def QJo (v:Int×Zz×Zy):St:={ s:=[(1,(.loc 0 [])),(3,(.row 1)),(4,(.val ⟨Z2,v.1⟩))],l:=[(0,.var Z4 (.val ⟨Z4,v.2.1⟩)),(1,.row Z2 v.2.2)],k:=[],b:=4096 }
def mR (aI:Int×Zz×Zy->Option (Zy)) (v:Int×Zz×Zy):Option (Zy):=
 (bif (decide (v.1 < (List.length v.2.1.2.2.2.1:Int))) then ((Nk v.2.1.2.2.2.1 v.1).bind fun x2=>(bif (Nat.ble 1 1&&Nat.ble (List.length v.2.2+List.length ([x2.2.1]:Zy)) lim) then (let x3:Zy:=(List.append v.2.2 ([x2.2.1]:Zy));(let x4:Int:=(IntKind.i64.wrap (v.1+1));(aI (x4,v.2.1,x3)))) else none)) else (some v.2.2))
def mE (N:Nat) (aI:Int×Zz×Zy->Option (Zy)) (v:Int×Zz×Zy):Option (Zy):=mR aI v
theorem QWu (N:Nat) (s0:St->Option (Zy)) (v):(ZR (Ez6) Tz6 6 N Tryz.f175 [Z5] [true] [] 0 Xv) s0 (QJo v)=mE N (fun v=>s0 (QJo v)) v:=by kernel_rfl
def vK (aL:Int×Zz×Zy->Option (Zy)) (x:Zz):Option (Zy):=
 (bif (x.1==6) then (bif (Nat.ble 1 1&&Nat.ble (List.length ([]:List Int)+List.length ([x.2.1]:Zy)) lim) then (let x1:Zy:=(List.append ([]:List Int) ([x.2.1]:Zy));(aL ((0:Int),x,x1))) else none) else (aL ((0:Int),x,([]:List Int))))
def QBx (N:Nat) (x:Zz):Option (Zy):=vK (Gb (mE N) N) x
theorem lz6 (N:Nat) (x:Zz):rise (Ez6) Tz6 6 N Tryz.f175 [Z4] [Z5] [true] x=QBx N x:=Eq.trans (b:=vK (fun v=>Ot (ZR (Ez6) Tz6 6 N Tryz.f175 [Z5] [true] [] 0 Xv) N (QJo v)) x) (by kernel_rfl) (by rw [funext (Tf QJo (QWu N) N)];rfl)
def uZ (x:Zz):Option (Zy):=QBx big x
def Gz6:U0:=⟨[Z4],[Z5],[true],fun x=>uZ x⟩
theorem Lz6:Hw Tryz.prog 175 Gz6:=rz (E:=Ez6) ⟨aM,Yc,fun _ _ _=>rfl,mixed,Yt,Y0,Yz⟩ Tryz.func175 fun _ _ h=>(lz6 big _).trans h
def Tz7:LT:={ live:=[(6,[0,1,5,6,7]),(10,[0,1,5,6,7,8,9,10])],keep:=[] }
noncomputable def Ez7 (me:zi->Option (Zy)):Bn:={ tab:=tab,fs:=[(175,Gz6),(144,⟨[wh,Z2],[Z5],[true],fun x=>me x⟩)],inl:=[] }
noncomputable def QJp (v:Y34):St:={ s:=[(0,(.val ⟨wh,v.1⟩)),(1,(.val ⟨Z2,v.2.1⟩)),(5,(.row 0)),(6,(.row 1)),(7,(.val ⟨Z2,v.2.2.1⟩)),(8,(.val ⟨Z2,v.2.2.2.1⟩)),(9,(.row 2)),(10,(.val ⟨Z2,v.2.2.2.2.1⟩))],l:=[(0,.row Z2 v.2.2.2.2.2.1),(1,.row Z2 v.2.2.2.2.2.2.1),(2,.row Z2 v.2.2.2.2.2.2.2)],k:=[],b:=4096 }
noncomputable def QFH (v:Y55):St:={ s:=[(0,(.val ⟨wh,v.1⟩)),(1,(.val ⟨Z2,v.2.1⟩)),(5,(.row 0)),(6,(.row 1)),(7,(.val ⟨Z2,v.2.2.1⟩))],l:=[(0,.row Z2 v.2.2.2.1),(1,.row Z2 v.2.2.2.2)],k:=[],b:=4096 }
def kJ (me:zi->Option (Zy)) (aI:Y55->Option (Zy)) (aJ:Y34->Option (Zy)) (v:Y34):Option (Zy):=
 (bif (decide (v.2.2.2.2.1 < (List.length v.2.2.2.2.2.2.2:Int))) then ((Nk v.1 v.2.2.1).bind fun x5=>(bif (x5.1==6) then ((Nk v.1 v.2.2.1).bind fun x6=>(bif (decide (0<=v.2.2.2.2.1)&&decide (v.2.2.2.2.1 < (List.length v.2.2.2.2.2.2.2:Int))) then ((nth v.2.2.2.2.2.2.2 (Int.toNat v.2.2.2.2.1)).bind fun x7=>(bif (decide (0<=x7)&&decide (x7 < (List.length v.2.2.2.2.2.2.1:Int))) then ((nth v.2.2.2.2.2.2.1 (Int.toNat x7)).bind fun x8=>(let x9:Int:=(IntKind.i64.wrap (x6.2.2.1 * x8));(let gH:Int:=(IntKind.i64.wrap (v.2.2.2.1+x9));(let nV:Int:=(if (5001:Int) < gH then (5001:Int) else gH);(let pU:Int:=(IntKind.i64.wrap (v.2.2.2.2.1+1));(aJ (v.1,v.2.1,v.2.2.1,nV,pU,v.2.2.2.2.2.1,v.2.2.2.2.2.2.1,v.2.2.2.2.2.2.2))))))) else none)) else none)) else (bif (decide (0<=v.2.2.2.2.1)&&decide (v.2.2.2.2.1 < (List.length v.2.2.2.2.2.2.2:Int))) then ((nth v.2.2.2.2.2.2.2 (Int.toNat v.2.2.2.2.1)).bind fun rE=>(bif (decide (0<=rE)&&decide (rE < (List.length v.2.2.2.2.2.2.1:Int))) then ((nth v.2.2.2.2.2.2.1 (Int.toNat rE)).bind fun kM=>(let jf:Int:=(IntKind.i64.wrap ((1:Int) * kM));(let vU:Int:=(IntKind.i64.wrap (v.2.2.2.1+jf));(let yQ:Int:=(if (5001:Int) < vU then (5001:Int) else vU);(let x18:Int:=(IntKind.i64.wrap (v.2.2.2.2.1+1));(aJ (v.1,v.2.1,v.2.2.1,yQ,x18,v.2.2.2.2.2.1,v.2.2.2.2.2.2.1,v.2.2.2.2.2.2.2))))))) else none)) else none))) else (bif (decide (v.2.1 > 0)) then ((Nk v.1 v.2.2.1).bind fun zh=>(bif (zh.1==4) then ((Nk v.1 v.2.2.1).bind fun x20=>(bif (decide (0<=x20.2.1)&&decide (x20.2.1 < (List.length v.2.2.2.2.2.1:Int))) then ((nth v.2.2.2.2.2.1 (Int.toNat x20.2.1)).bind fun x21=>(let x22:Int:=(IntKind.i64.wrap (v.2.2.2.1+x21));(let x23:Int:=(if (5001:Int) < x22 then (5001:Int) else x22);(bif (decide (v.2.1 > 0)) then ((Nk v.1 v.2.2.1).bind fun x24=>(bif (x24.1==7) then ((Nk v.1 v.2.2.1).bind fun x25=>(bif (decide (0<=x25.2.1)&&decide (x25.2.1 < (List.length v.2.2.2.2.2.1:Int))) then ((nth v.2.2.2.2.2.1 (Int.toNat x25.2.1)).bind fun x26=>(let x27:Int:=(IntKind.i64.wrap ((16:Int) * x26));(let x28:Int:=(IntKind.i64.wrap (x23+x27));(let x29:Int:=(if (5001:Int) < x28 then (5001:Int) else x28);(bif (Nat.ble 1 1&&Nat.ble (List.length v.2.2.2.2.2.2.1+List.length ([x29]:Zy)) lim) then (let x30:Zy:=(List.append v.2.2.2.2.2.2.1 ([x29]:Zy));(let x31:Int:=(IntKind.i64.wrap (v.2.2.1+1));(aI (v.1,v.2.1,x31,v.2.2.2.2.2.1,x30)))) else none))))) else none)) else (bif (Nat.ble 1 1&&Nat.ble (List.length v.2.2.2.2.2.2.1+List.length ([x23]:Zy)) lim) then (let x32:Zy:=(List.append v.2.2.2.2.2.2.1 ([x23]:Zy));(let x33:Int:=(IntKind.i64.wrap (v.2.2.1+1));(aI (v.1,v.2.1,x33,v.2.2.2.2.2.1,x32)))) else none))) else (bif (Nat.ble 1 1&&Nat.ble (List.length v.2.2.2.2.2.2.1+List.length ([x23]:Zy)) lim) then (let x34:Zy:=(List.append v.2.2.2.2.2.2.1 ([x23]:Zy));(let x35:Int:=(IntKind.i64.wrap (v.2.2.1+1));(aI (v.1,v.2.1,x35,v.2.2.2.2.2.1,x34)))) else none))))) else none)) else (bif (decide (v.2.1 > 0)) then ((Nk v.1 v.2.2.1).bind fun x36=>(bif (x36.1==7) then ((Nk v.1 v.2.2.1).bind fun x37=>(bif (decide (0<=x37.2.1)&&decide (x37.2.1 < (List.length v.2.2.2.2.2.1:Int))) then ((nth v.2.2.2.2.2.1 (Int.toNat x37.2.1)).bind fun x38=>(let x39:Int:=(IntKind.i64.wrap ((16:Int) * x38));(let x40:Int:=(IntKind.i64.wrap (v.2.2.2.1+x39));(let x41:Int:=(if (5001:Int) < x40 then (5001:Int) else x40);(bif (Nat.ble 1 1&&Nat.ble (List.length v.2.2.2.2.2.2.1+List.length ([x41]:Zy)) lim) then (let x42:Zy:=(List.append v.2.2.2.2.2.2.1 ([x41]:Zy));(let x43:Int:=(IntKind.i64.wrap (v.2.2.1+1));(aI (v.1,v.2.1,x43,v.2.2.2.2.2.1,x42)))) else none))))) else none)) else (let x44:Zy:=([v.2.2.2.1]:Zy);(bif (Nat.ble 1 1&&Nat.ble (List.length v.2.2.2.2.2.2.1+List.length x44) lim) then (let x45:Zy:=(List.append v.2.2.2.2.2.2.1 x44);(let x46:Int:=(IntKind.i64.wrap (v.2.2.1+1));(aI (v.1,v.2.1,x46,v.2.2.2.2.2.1,x45)))) else none)))) else (let x47:Zy:=([v.2.2.2.1]:Zy);(bif (Nat.ble 1 1&&Nat.ble (List.length v.2.2.2.2.2.2.1+List.length x47) lim) then (let x48:Zy:=(List.append v.2.2.2.2.2.2.1 x47);(let x49:Int:=(IntKind.i64.wrap (v.2.2.1+1));(aI (v.1,v.2.1,x49,v.2.2.2.2.2.1,x48)))) else none))))) else (bif (decide (v.2.1 > 0)) then ((Nk v.1 v.2.2.1).bind fun x50=>(bif (x50.1==7) then ((Nk v.1 v.2.2.1).bind fun x51=>(bif (decide (0<=x51.2.1)&&decide (x51.2.1 < (List.length v.2.2.2.2.2.1:Int))) then ((nth v.2.2.2.2.2.1 (Int.toNat x51.2.1)).bind fun x52=>(let x53:Int:=(IntKind.i64.wrap ((16:Int) * x52));(let x54:Int:=(IntKind.i64.wrap (v.2.2.2.1+x53));(let x55:Int:=(if (5001:Int) < x54 then (5001:Int) else x54);(bif (Nat.ble 1 1&&Nat.ble (List.length v.2.2.2.2.2.2.1+List.length ([x55]:Zy)) lim) then (let x56:Zy:=(List.append v.2.2.2.2.2.2.1 ([x55]:Zy));(let x57:Int:=(IntKind.i64.wrap (v.2.2.1+1));(aI (v.1,v.2.1,x57,v.2.2.2.2.2.1,x56)))) else none))))) else none)) else (let x58:Zy:=([v.2.2.2.1]:Zy);(bif (Nat.ble 1 1&&Nat.ble (List.length v.2.2.2.2.2.2.1+List.length x58) lim) then (let x59:Zy:=(List.append v.2.2.2.2.2.2.1 x58);(let x60:Int:=(IntKind.i64.wrap (v.2.2.1+1));(aI (v.1,v.2.1,x60,v.2.2.2.2.2.1,x59)))) else none)))) else (let x61:Zy:=([v.2.2.2.1]:Zy);(bif (Nat.ble 1 1&&Nat.ble (List.length v.2.2.2.2.2.2.1+List.length x61) lim) then (let x62:Zy:=(List.append v.2.2.2.2.2.2.1 x61);(let x63:Int:=(IntKind.i64.wrap (v.2.2.1+1));(aI (v.1,v.2.1,x63,v.2.2.2.2.2.1,x62)))) else none)))))
def uG (me:zi->Option (Zy)) (N:Nat) (aI:Y55->Option (Zy)) (aJ:Y34->Option (Zy)) (v:Y34):Option (Zy):=kJ me aI aJ v
theorem QWw (me:zi->Option (Zy)) (N:Nat) (s0:St->Option (Zy)) (s1:St->Option (Zy)) (v):(ZR (Ez7 me) Tz7 6 N Tryz.f144 [Z5] [true] [] 1 (Yx s0 Xv)) s1 (QJp v)=uG me N (fun v=>s0 (QFH v)) (fun v=>s1 (QJp v)) v:=by kernel_rfl
def gT (me:zi->Option (Zy)) (bH:Y34->Option (Zy)) (aI:Y55->Option (Zy)) (v:Y55):Option (Zy):=
 (bif (decide (v.2.2.1 < (List.length v.1:Int))) then ((Nk v.1 v.2.2.1).bind fun x3=>((uZ x3).bind fun x4=>(bH (v.1,v.2.1,v.2.2.1,(1:Int),(0:Int),v.2.2.2.1,v.2.2.2.2,x4)))) else (some v.2.2.2.2))
def kI (me:zi->Option (Zy)) (N:Nat) (aI:Y55->Option (Zy)) (v:Y55):Option (Zy):=gT me (Gb (uG me N aI) N) aI v
theorem QWv (me:zi->Option (Zy)) (N:Nat) (s0:St->Option (Zy)) (v):(ZR (Ez7 me) Tz7 6 N Tryz.f144 [Z5] [true] [] 0 Xv) s0 (QFH v)=kI me N (fun v=>s0 (QFH v)) v:=Eq.trans (b:=gT me (fun v=>Ot (ZR (Ez7 me) Tz7 6 N Tryz.f144 [Z5] [true] [] 1 (Yx s0 Xv)) N (QJp v)) (fun v=>s0 (QFH v)) v) (by kernel_rfl) (by rw [funext (Tf QJp (QWw me N s0) N)];rfl)
def oO (me:zi->Option (Zy)) (aL:Y55->Option (Zy)) (x:zi):Option (Zy):=
 (bif (decide (x.2 > 0)) then (let x1:Int:=(IntKind.i64.wrap (x.2 - 1));((me (x.1,x1)).bind fun x2=>(aL (x.1,x.2,(0:Int),x2,([]:List Int))))) else (aL (x.1,x.2,(0:Int),([]:List Int),([]:List Int))))
def QAw (me:zi->Option (Zy)) (N:Nat) (x:zi):Option (Zy):=oO me (Gb (kI me N) N) x
theorem lz7 (me:zi->Option (Zy)) (N:Nat) (x:zi):rise (Ez7 me) Tz7 6 N Tryz.f144 [wh,Z2] [Z5] [true] x=QAw me N x:=Eq.trans (b:=oO me (fun v=>Ot (ZR (Ez7 me) Tz7 6 N Tryz.f144 [Z5] [true] [] 0 Xv) N (QFH v)) x) (by kernel_rfl) (by rw [funext (Tf QFH (QWv me N) N)];rfl)
def dY:Nat->aG×Int->Option (Zy)
 | 0,_=>none
 | k+1,x=>QAw (dY k) big x
def xZ (x:zi):Option (Zy):=dY big x
def Gz7:U0:=⟨[wh,Z2],[Z5],[true],fun x=>xZ x⟩
theorem Rz7:∀ k,Hw Tryz.prog 144 ⟨[wh,Z2],[Z5],[true],fun x=>dY k x⟩
 | 0=>Wp Tryz.func144 rfl (by decide) (by kernel_rfl) (by kernel_rfl)
 | k+1=>by
  have ih:=Rz7 k
  exact UQ (E:=Ez7 (dY k)) ⟨aM,(YH Lz6 (YH ih Yc)),fun _ _ _=>rfl,mixed,Yt,Y0,Yz⟩ Tryz.func144 rfl (by decide) (by kernel_rfl) (by kernel_rfl) (by kernel_rfl) (by kernel_rfl) (fun x r _ h=>⟨Tz7,6,big,(lz7 (dY k) big x).trans h⟩)
theorem Lz7:Hw Tryz.prog 144 Gz7:=Rz7 big
def Tz8:LT:={ live:=[(4,[0,3]),(10,[0,4,5])],keep:=[] }
noncomputable def Ez8:Bn:={ tab:=tab,fs:=[(143,Gz5),(144,Gz7)],inl:=[] }
noncomputable def QJq (v:Y78):St:={ s:=[(0,(.val ⟨wh,v.1⟩)),(4,(.row 0)),(5,(.val ⟨Z2,v.2.1⟩))],l:=[(0,.row Z2 v.2.2)],k:=[],b:=4096 }
noncomputable def QFI (v:zi):St:={ s:=[(0,(.val ⟨wh,v.1⟩)),(3,(.val ⟨Z2,v.2⟩))],l:=[],k:=[],b:=4096 }
def mO (aI:zi->Option (Int)) (aJ:Y78->Option (Int)) (v:Y78):Option (Int):=
 (bif (decide (v.2.1 < (List.length v.1:Int))) then (bif (decide (0<=v.2.1)&&decide (v.2.1 < (List.length v.2.2:Int))) then ((nth v.2.2 (Int.toNat v.2.1)).bind fun x4=>(bif (decide (x4 > 5000)) then (some (8:Int)) else (let x5:Int:=(IntKind.i64.wrap (v.2.1+1));(aJ (v.1,x5,v.2.2))))) else none) else (some (0:Int)))
def qN (N:Nat) (aI:zi->Option (Int)) (aJ:Y78->Option (Int)) (v:Y78):Option (Int):=mO aI aJ v
theorem QWy (N:Nat) (s0:St->Option (Int)) (s1:St->Option (Int)) (v):(ZR (Ez8) Tz8 6 N Tryz.f112 [Z2] [false] [] 1 Xv) s1 (QJq v)=qN N (fun v=>s0 (QFI v)) (fun v=>s1 (QJq v)) v:=by kernel_rfl
def jY (bH:Y78->Option (Int)) (aI:zi->Option (Int)) (v:zi):Option (Int):=
 (bif (decide (v.2 < (List.length v.1:Int))) then ((QAC (v.1,v.2)).bind fun x1=>(bif (!x1) then (some (8:Int)) else (let x2:Int:=(IntKind.i64.wrap (v.2+1));(aI (v.1,x2))))) else ((xZ (v.1,(3:Int))).bind fun x3=>(bH (v.1,(0:Int),x3))))
def l9 (N:Nat) (aI:zi->Option (Int)) (v:zi):Option (Int):=jY (Gb (qN N aI) N) aI v
theorem QWx (N:Nat) (s0:St->Option (Int)) (v):(ZR (Ez8) Tz8 6 N Tryz.f112 [Z2] [false] [] 0 Xv) s0 (QFI v)=l9 N (fun v=>s0 (QFI v)) v:=Eq.trans (b:=jY (fun v=>Ot (ZR (Ez8) Tz8 6 N Tryz.f112 [Z2] [false] [] 1 Xv) N (QJq v)) (fun v=>s0 (QFI v)) v) (by kernel_rfl) (by rw [funext (Tf QJq (QWy N s0) N)];rfl)
def vH (aL:zi->Option (Int)) (x:aG):Option (Int):=
 (bif (decide ((List.length x:Int) > 32)) then (some (8:Int)) else (aL (x,(0:Int))))
def QBu (N:Nat) (x:aG):Option (Int):=vH (Gb (l9 N) N) x
theorem lz8 (N:Nat) (x:aG):rise (Ez8) Tz8 6 N Tryz.f112 [wh] [Z2] [false] x=QBu N x:=Eq.trans (b:=vH (fun v=>Ot (ZR (Ez8) Tz8 6 N Tryz.f112 [Z2] [false] [] 0 Xv) N (QFI v)) x) (by kernel_rfl) (by rw [funext (Tf QFI (QWx N) N)];rfl)
def zG (x:aG):Option (Int):=QBu big x
def Gz8:U0:=⟨[wh],[Z2],[false],fun x=>zG x⟩
theorem Lz8:Hw Tryz.prog 112 Gz8:=rz (E:=Ez8) ⟨aM,(YH Lz5 (YH Lz7 Yc)),fun _ _ _=>rfl,mixed,Yt,Y0,Yz⟩ Tryz.func112 fun _ _ h=>(lz8 big _).trans h
def Tz9:LT:={ live:=[],keep:=[] }
noncomputable def Ez9:Bn:={ tab:=tab,fs:=[],inl:=[] }
def QCs (x:Y81):Option (Int):=
 (let x1:Int:=(IntKind.i64.wrap (x.1+x.2));(let x2:Int:=(IntKind.i64.wrap (x1 - 1));(bif (x.2==0) then none else (let x3:Int:=(IntKind.i64.wrap (x2.tdiv x.2));(let x4:Int:=(IntKind.i64.wrap (x3 * x.2));(some x4))))))
def vW (x:Y81):Option (Int):=QCs x
def Gz9:U0:=⟨[Z2,Z2],[Z2],[false],fun x=>vW x⟩
theorem Lz9:Hw Tryz.prog 116 Gz9:=rz (E:=Ez9) (lt:=Tz9) (lv:=6) (N:=big) ⟨aM,Yc,fun _ _ _=>rfl,mixed,Yt,Y0,Yz⟩ Tryz.func116 fun x _ h=>Eq.trans (b:=vW x) (by kernel_rfl) h
def QR9:LT:={ live:=[(4,[0,1,2,9,10,11,12])],keep:=[] }
noncomputable def QNL:Bn:={ tab:=tab,fs:=[(116,Gz9)],inl:=[] }
noncomputable def QFr (v:Y38):St:={ s:=[(0,(.val ⟨Z5,v.1⟩)),(1,(.val ⟨Z5,v.2.1⟩)),(2,(.val ⟨Z9,v.2.2.1⟩)),(9,(.row 0)),(10,(.val ⟨Z2,v.2.2.2.1⟩)),(11,(.val ⟨Z2,v.2.2.2.2.1⟩)),(12,(.val ⟨Z2,v.2.2.2.2.2.1⟩))],l:=[(0,.row Z2 v.2.2.2.2.2.2)],k:=[],b:=4096 }
def iK (aI:Y38->Option Y22) (v:Y38):Option Y22:=
 (bif (decide (v.2.2.2.2.2.1 < (List.length v.2.2.1:Int))) then ((Nk v.2.2.1 v.2.2.2.2.2.1).bind fun x1=>((Nk v.2.1 x1.2.1).bind fun x2=>((vW (v.2.2.2.1,x2)).bind fun x3=>(bif (Nat.ble 1 1&&Nat.ble (List.length v.2.2.2.2.2.2+List.length ([x3]:Zy)) lim) then (let x4:Zy:=(List.append v.2.2.2.2.2.2 ([x3]:Zy));((Nk v.1 x1.2.1).bind fun x5=>(let x6:Int:=(IntKind.i64.wrap (x3+x5));(let x7:Int:=(if x6 < 1000000 then x6 else (1000000:Int));((Nk v.2.1 x1.2.1).bind fun x8=>(let x9:Int:=(if x8 > v.2.2.2.2.1 then x8 else v.2.2.2.2.1);(let gH:Int:=(IntKind.i64.wrap (v.2.2.2.2.2.1+1));(aI (v.1,v.2.1,v.2.2.1,x7,x9,gH,x4))))))))) else none)))) else ((vW (v.2.2.2.1,v.2.2.2.2.1)).bind fun nV=>(let pU:Int:=(if nV < 1000000 then nV else (1000000:Int));(some (v.2.2.2.2.2.2,pU,v.2.2.2.2.1)))))
def lM (N:Nat) (aI:Y38->Option Y22) (v:Y38):Option Y22:=iK aI v
theorem QRb (N:Nat) (s0:St->Option Y22) (v):(ZR (QNL) QR9 6 N Tryz.f115 [Z5,Z2,Z2] [true,false,false] [] 0 Xv) s0 (QFr v)=lM N (fun v=>s0 (QFr v)) v:=by kernel_rfl
def ou (aL:Y38->Option Y22) (x:Zy×Zy×aC):Option Y22:=
 (aL (x.1,x.2.1,x.2.2,(0:Int),(1:Int),(0:Int),([]:List Int)))
def zy (N:Nat) (x:Zy×Zy×aC):Option Y22:=ou (Gb (lM N) N) x
theorem QaP (N:Nat) (x:Zy×Zy×aC):rise (QNL) QR9 6 N Tryz.f115 [Z5,Z5,Z9] [Z5,Z2,Z2] [true,false,false] x=zy N x:=Eq.trans (b:=ou (fun v=>Ot (ZR (QNL) QR9 6 N Tryz.f115 [Z5,Z2,Z2] [true,false,false] [] 0 Xv) N (QFr v)) x) (by kernel_rfl) (by rw [funext (Tf QFr (QRb N) N)];rfl)
def uE (x:Zy×Zy×aC):Option Y22:=zy big x
def QU1:U0:=⟨[Z5,Z5,Z9],[Z5,Z2,Z2],[true,false,false],fun x=>uE x⟩
theorem QYg:Hw Tryz.prog 115 QU1:=rz (E:=QNL) ⟨aM,(YH Lz9 Yc),fun _ _ _=>rfl,mixed,Yt,Y0,Yz⟩ Tryz.func115 fun _ _ h=>(QaP big _).trans h
def QRA:LT:={ live:=[(3,[0,4,5,6])],keep:=[] }
noncomputable def QNM:Bn:={ tab:=tab,fs:=[(115,QU1)],inl:=[] }
noncomputable def QFs (v:aG×Int×Zy×Zy):St:={ s:=[(0,(.val ⟨wh,v.1⟩)),(4,(.row 0)),(5,(.row 1)),(6,(.val ⟨Z2,v.2.1⟩))],l:=[(0,.row Z2 v.2.2.1),(1,.row Z2 v.2.2.2)],k:=[],b:=4096 }
def mU (aI:aG×Int×Zy×Zy->Option Y24) (v:aG×Int×Zy×Zy):Option Y24:=
 (bif (decide (v.2.1 < (List.length v.1:Int))) then ((Nk v.1 v.2.1).bind fun x1=>(bif (x1.1==1) then (let x2:Zy:=([(1:Int)]:Zy);(bif (Nat.ble 1 1&&Nat.ble (List.length v.2.2.1+List.length x2) lim) then (let x3:Zy:=([(1:Int)]:Zy);(bif (Nat.ble 1 1&&Nat.ble (List.length v.2.2.2+List.length x3) lim) then (let x4:Int:=(IntKind.i64.wrap (v.2.1+1));(aI (v.1,x4,(List.append v.2.2.1 x2),(List.append v.2.2.2 x3)))) else none)) else none)) else (bif (x1.1==3) then (let x5:Zy:=([(16:Int)]:Zy);(bif (Nat.ble 1 1&&Nat.ble (List.length v.2.2.1+List.length x5) lim) then (let x6:Zy:=([(8:Int)]:Zy);(bif (Nat.ble 1 1&&Nat.ble (List.length v.2.2.2+List.length x6) lim) then (let x7:Int:=(IntKind.i64.wrap (v.2.1+1));(aI (v.1,x7,(List.append v.2.2.1 x5),(List.append v.2.2.2 x6)))) else none)) else none)) else (bif (x1.1==7) then (let x8:Zy:=([(24:Int)]:Zy);(bif (Nat.ble 1 1&&Nat.ble (List.length v.2.2.1+List.length x8) lim) then (let x9:Zy:=([(8:Int)]:Zy);(bif (Nat.ble 1 1&&Nat.ble (List.length v.2.2.2+List.length x9) lim) then (let gH:Int:=(IntKind.i64.wrap (v.2.1+1));(aI (v.1,gH,(List.append v.2.2.1 x8),(List.append v.2.2.2 x9)))) else none)) else none)) else (bif (x1.1==6) then ((Nk v.1 v.2.1).bind fun nV=>((Nk v.1 v.2.1).bind fun pU=>(bif (decide (0<=pU.2.1)&&decide (pU.2.1 < (List.length v.2.2.1:Int))) then ((nth v.2.2.1 (Int.toNat pU.2.1)).bind fun rE=>(let kM:Int:=(IntKind.i64.wrap (nV.2.2.1 * rE));(let jf:Int:=(if kM < 1000000 then kM else (1000000:Int));((Nk v.1 v.2.1).bind fun vU=>(bif (decide (0<=vU.2.1)&&decide (vU.2.1 < (List.length v.2.2.2:Int))) then ((nth v.2.2.2 (Int.toNat vU.2.1)).bind fun yQ=>(bif (Nat.ble 1 1&&Nat.ble (List.length v.2.2.1+List.length ([jf]:Zy)) lim) then (let x18:Zy:=(List.append v.2.2.1 ([jf]:Zy));(bif (Nat.ble 1 1&&Nat.ble (List.length v.2.2.2+List.length ([yQ]:Zy)) lim) then (let zh:Zy:=(List.append v.2.2.2 ([yQ]:Zy));(let x20:Int:=(IntKind.i64.wrap (v.2.1+1));(aI (v.1,x20,x18,zh)))) else none)) else none)) else none))))) else none))) else (bif (x1.1==5) then ((Nk v.1 v.2.1).bind fun x21=>((uE (v.2.2.1,v.2.2.2,x21.2.2.2.1)).bind fun x22=>(bif (Nat.ble 1 1&&Nat.ble (List.length v.2.2.1+List.length ([x22.2.1]:Zy)) lim) then (let x23:Zy:=(List.append v.2.2.1 ([x22.2.1]:Zy));(bif (Nat.ble 1 1&&Nat.ble (List.length v.2.2.2+List.length ([x22.2.2]:Zy)) lim) then (let x24:Zy:=(List.append v.2.2.2 ([x22.2.2]:Zy));(let x25:Int:=(IntKind.i64.wrap (v.2.1+1));(aI (v.1,x25,x23,x24)))) else none)) else none))) else (let x26:Zy:=([(8:Int)]:Zy);(bif (Nat.ble 1 1&&Nat.ble (List.length v.2.2.1+List.length x26) lim) then (let x27:Zy:=(List.append v.2.2.1 x26);(let x28:Zy:=([(8:Int)]:Zy);(bif (Nat.ble 1 1&&Nat.ble (List.length v.2.2.2+List.length x28) lim) then (let x29:Zy:=(List.append v.2.2.2 x28);(let x30:Int:=(IntKind.i64.wrap (v.2.1+1));(aI (v.1,x30,x27,x29)))) else none))) else none)))))))) else (some (v.2.2.1,v.2.2.2)))
def qP (N:Nat) (aI:aG×Int×Zy×Zy->Option Y24) (v:aG×Int×Zy×Zy):Option Y24:=mU aI v
theorem QRc (N:Nat) (s0:St->Option Y24) (v):(ZR (QNM) QRA 6 N Tryz.f68 [Z5,Z5] [true,false] [] 0 Xv) s0 (QFs v)=qP N (fun v=>s0 (QFs v)) v:=by kernel_rfl
def vL (aL:aG×Int×Zy×Zy->Option Y24) (x:aG):Option Y24:=
 (aL (x,(0:Int),([]:List Int),([]:List Int)))
def QBy (N:Nat) (x:aG):Option Y24:=vL (Gb (qP N) N) x
theorem QaQ (N:Nat) (x:aG):rise (QNM) QRA 6 N Tryz.f68 [wh] [Z5,Z5] [true,false] x=QBy N x:=Eq.trans (b:=vL (fun v=>Ot (ZR (QNM) QRA 6 N Tryz.f68 [Z5,Z5] [true,false] [] 0 Xv) N (QFs v)) x) (by kernel_rfl) (by rw [funext (Tf QFs (QRc N) N)];rfl)
def uf (x:aG):Option Y24:=QBy big x
def QQd:U0:=⟨[wh],[Z5,Z5],[true,false],fun x=>uf x⟩
theorem QUo:Hw Tryz.prog 68 QQd:=rz (E:=QNM) ⟨aM,(YH QYg Yc),fun _ _ _=>rfl,mixed,Yt,Y0,Yz⟩ Tryz.func68 fun _ _ h=>(QaQ big _).trans h
def QZU:LT:={ live:=[],keep:=[],cnd:=[10,13,19,39,45,50] }
noncomputable def QXz:Bn:={ tab:=tab,fs:=[],inl:=[] }
def QGh (x:Int):Option (Zy):=
 (bif (x==1) then (some ([119,110,45]:List Int)) else (bif (x==2) then (some ([119,116,45]:List Int)) else (bif (x==3) then (some ([119,98,45]:List Int)) else (bif (x==4) then (some ([119,45,45]:List Int)) else (bif (x==15) then (some ([119,45,45]:List Int)) else (bif (x==5) then (some ([119,114,45]:List Int)) else (bif (x==12) then (some ([119,114,45]:List Int)) else (bif (x==16) then (some ([119,114,45]:List Int)) else (bif (x==18) then (some ([119,114,45]:List Int)) else (bif (x==21) then (some ([119,114,45]:List Int)) else (bif (x==6) then (some ([119,114,114]:List Int)) else (bif (x==7) then (some ([119,114,114]:List Int)) else (bif (x==8) then (some ([119,114,114]:List Int)) else (bif (x==9) then (some ([119,114,114]:List Int)) else (bif (x==10) then (some ([119,114,114]:List Int)) else (bif (x==11) then (some ([119,114,114]:List Int)) else (bif (x==19) then (some ([119,114,114]:List Int)) else (bif (x==13) then (some ([119,114,102]:List Int)) else (bif (x==14) then (some ([114,102,114]:List Int)) else (bif (x==17) then (some ([114,114,45]:List Int)) else (bif (x==20) then (some ([114,114,114]:List Int)) else (bif (x==22) then (some ([105,45,45]:List Int)) else (bif (x==23) then (some ([114,105,45]:List Int)) else (bif (x==24) then (some ([114,45,45]:List Int)) else (bif (x==28) then (some ([114,45,45]:List Int)) else (bif (x==32) then (some ([114,45,45]:List Int)) else (bif (x==25) then (some ([103,99,45]:List Int)) else (bif (x==26) then (some ([99,45,45]:List Int)) else (bif (x==27) then (some ([99,45,45]:List Int)) else (bif (x==29) then (some ([119,119,45]:List Int)) else (bif (x==30) then (some ([45,45,45]:List Int)) else (bif (x==31) then (some ([45,45,45]:List Int)) else (bif (x==33) then (some ([119,114,45]:List Int)) else (bif (x==34) then (some ([101,45,45]:List Int)) else (some ([]:List Int))))))))))))))))))))))))))))))))))))
def jo (x:Int):Option (Zy):=QGh x
def QNm:U0:=⟨[mo],[.str],[false],fun x=>jo x⟩
theorem QQv:Hw Tryz.prog 66 QNm:=rz (E:=QXz) (lt:=QZU) (lv:=6) (N:=big) ⟨aM,Yc,fun _ _ _=>rfl,mixed,Yt,Y0,Yz⟩ Tryz.func66 fun x _ h=>Eq.trans (b:=jo x) (by kernel_rfl) h
def QZV:LT:={ live:=[],keep:=[] }
noncomputable def QY0:Bn:={ tab:=tab,fs:=[],inl:=[] }
def QDK (x:aA):Option (Zy):=
 (let x1:Zy:=[x.2.1,x.2.2.1,x.2.2.2.1];(some x1))
def bV (x:aA):Option (Zy):=QDK x
def QNn:U0:=⟨[Z3],[Z17],[false],fun x=>bV x⟩
theorem QQw:Hw Tryz.prog 67 QNn:=rz (E:=QY0) (lt:=QZV) (lv:=6) (N:=big) ⟨aM,Yc,fun _ _ _=>rfl,mixed,Yt,Y0,Yz⟩ Tryz.func67 fun x _ h=>Eq.trans (b:=bV x) (by kernel_rfl) h
def QZW:LT:={ live:=[],keep:=[] }
noncomputable def QY1:Bn:={ tab:=tab,fs:=[],inl:=[] }
def QDF (x:Y81):Option (Bool):=
 (bif (x.1==45) then (some (x.2==0)) else (bif (x.1==119) then (bif (x.1==119) then (bif (decide (x.2≥0)) then (some (decide (x.2 < 16))) else (some false)) else (bif (x.1==103) then (bif (x.1==103) then (bif (decide (x.2≥(-1:Int))) then (some (decide (x.2 < 16))) else (some false)) else (bif (x.1==116) then (bif (x.1==116) then (bif (decide (x.2≥0)) then (some (decide (x.2 < 32))) else (some false)) else (bif (x.1==98) then (bif (decide (x.2≥0)) then (some (decide (x.2 < 2))) else (some false)) else (bif (x.1==102) then (bif (decide (x.2≥0)) then (some (decide (x.2 < 8))) else (some false)) else (bif (x.1==105) then (bif (decide (x.2≥0)) then (some (decide (x.2 < 200))) else (some false)) else (some true))))) else (bif (x.1==99) then (bif (decide (x.2≥0)) then (some (decide (x.2 < 32))) else (some false)) else (bif (x.1==98) then (bif (decide (x.2≥0)) then (some (decide (x.2 < 2))) else (some false)) else (bif (x.1==102) then (bif (decide (x.2≥0)) then (some (decide (x.2 < 8))) else (some false)) else (bif (x.1==105) then (bif (decide (x.2≥0)) then (some (decide (x.2 < 200))) else (some false)) else (some true))))))) else (bif (x.1==101) then (bif (decide (x.2≥(-1:Int))) then (some (decide (x.2 < 16))) else (some false)) else (bif (x.1==116) then (bif (x.1==116) then (bif (decide (x.2≥0)) then (some (decide (x.2 < 32))) else (some false)) else (bif (x.1==98) then (bif (decide (x.2≥0)) then (some (decide (x.2 < 2))) else (some false)) else (bif (x.1==102) then (bif (decide (x.2≥0)) then (some (decide (x.2 < 8))) else (some false)) else (bif (x.1==105) then (bif (decide (x.2≥0)) then (some (decide (x.2 < 200))) else (some false)) else (some true))))) else (bif (x.1==99) then (bif (decide (x.2≥0)) then (some (decide (x.2 < 32))) else (some false)) else (bif (x.1==98) then (bif (decide (x.2≥0)) then (some (decide (x.2 < 2))) else (some false)) else (bif (x.1==102) then (bif (decide (x.2≥0)) then (some (decide (x.2 < 8))) else (some false)) else (bif (x.1==105) then (bif (decide (x.2≥0)) then (some (decide (x.2 < 200))) else (some false)) else (some true))))))))) else (bif (x.1==114) then (bif (decide (x.2≥0)) then (some (decide (x.2 < 16))) else (some false)) else (bif (x.1==103) then (bif (x.1==103) then (bif (decide (x.2≥(-1:Int))) then (some (decide (x.2 < 16))) else (some false)) else (bif (x.1==116) then (bif (x.1==116) then (bif (decide (x.2≥0)) then (some (decide (x.2 < 32))) else (some false)) else (bif (x.1==98) then (bif (decide (x.2≥0)) then (some (decide (x.2 < 2))) else (some false)) else (bif (x.1==102) then (bif (decide (x.2≥0)) then (some (decide (x.2 < 8))) else (some false)) else (bif (x.1==105) then (bif (decide (x.2≥0)) then (some (decide (x.2 < 200))) else (some false)) else (some true))))) else (bif (x.1==99) then (bif (decide (x.2≥0)) then (some (decide (x.2 < 32))) else (some false)) else (bif (x.1==98) then (bif (decide (x.2≥0)) then (some (decide (x.2 < 2))) else (some false)) else (bif (x.1==102) then (bif (decide (x.2≥0)) then (some (decide (x.2 < 8))) else (some false)) else (bif (x.1==105) then (bif (decide (x.2≥0)) then (some (decide (x.2 < 200))) else (some false)) else (some true))))))) else (bif (x.1==101) then (bif (decide (x.2≥(-1:Int))) then (some (decide (x.2 < 16))) else (some false)) else (bif (x.1==116) then (bif (x.1==116) then (bif (decide (x.2≥0)) then (some (decide (x.2 < 32))) else (some false)) else (bif (x.1==98) then (bif (decide (x.2≥0)) then (some (decide (x.2 < 2))) else (some false)) else (bif (x.1==102) then (bif (decide (x.2≥0)) then (some (decide (x.2 < 8))) else (some false)) else (bif (x.1==105) then (bif (decide (x.2≥0)) then (some (decide (x.2 < 200))) else (some false)) else (some true))))) else (bif (x.1==99) then (bif (decide (x.2≥0)) then (some (decide (x.2 < 32))) else (some false)) else (bif (x.1==98) then (bif (decide (x.2≥0)) then (some (decide (x.2 < 2))) else (some false)) else (bif (x.1==102) then (bif (decide (x.2≥0)) then (some (decide (x.2 < 8))) else (some false)) else (bif (x.1==105) then (bif (decide (x.2≥0)) then (some (decide (x.2 < 200))) else (some false)) else (some true)))))))))))
def tH (x:Y81):Option (Bool):=QDF x
def QU2:U0:=⟨[mo,Z2],[.bool],[false],fun x=>tH x⟩
theorem QYh:Hw Tryz.prog 114 QU2:=rz (E:=QY1) (lt:=QZW) (lv:=6) (N:=big) ⟨aM,Yc,fun _ _ _=>rfl,mixed,Yt,Y0,Yz⟩ Tryz.func114 fun x _ h=>Eq.trans (b:=tH x) (by kernel_rfl) h
def QRB:LT:={ live:=[(5,[3,4,5])],keep:=[] }
noncomputable def QNN:Bn:={ tab:=tab,fs:=[(66,QNm),(67,QNn),(114,QU2)],inl:=[] }
noncomputable def QFt (v:Y79):St:={ s:=[(3,(.val ⟨.str,v.1⟩)),(4,(.loc 0 [])),(5,(.val ⟨Z2,v.2.1⟩))],l:=[(0,.var Z17 (.val ⟨Z17,v.2.2⟩))],k:=[],b:=4096 }
def mV (aI:Y79->Option (Int)) (v:Y79):Option (Int):=
 (bif (decide (v.2.1 < 3)) then ((Nk v.1 v.2.1).bind fun x3=>(bif (decide (0<=v.2.1)&&decide (v.2.1 < 3)) then ((nth v.2.2 (Int.toNat v.2.1)).bind fun x4=>((tH (x3,x4)).bind fun x5=>(bif (!x5) then (some (8:Int)) else (let x6:Int:=(IntKind.i64.wrap (v.2.1+1));(aI (v.1,x6,v.2.2)))))) else none)) else (some (0:Int)))
def dh (N:Nat) (aI:Y79->Option (Int)) (v:Y79):Option (Int):=mV aI v
theorem QRd (N:Nat) (s0:St->Option (Int)) (v):(ZR (QNN) QRB 6 N Tryz.f64 [Z2] [false] [] 0 Xv) s0 (QFt v)=dh N (fun v=>s0 (QFt v)) v:=by kernel_rfl
def nU (aL:Y79->Option (Int)) (x:aA):Option (Int):=
 ((jo x.1).bind fun x1=>((bV x).bind fun x2=>(bif ((List.length x1:Int) != 3) then (some (8:Int)) else (aL (x1,(0:Int),x2)))))
def QBz (N:Nat) (x:aA):Option (Int):=nU (Gb (dh N) N) x
theorem QaR (N:Nat) (x:aA):rise (QNN) QRB 6 N Tryz.f64 [Z3] [Z2] [false] x=QBz N x:=Eq.trans (b:=nU (fun v=>Ot (ZR (QNN) QRB 6 N Tryz.f64 [Z2] [false] [] 0 Xv) N (QFt v)) x) (by kernel_rfl) (by rw [funext (Tf QFt (QRd N) N)];rfl)
def qG (x:aA):Option (Int):=QBz big x
def QQe:U0:=⟨[Z3],[Z2],[false],fun x=>qG x⟩
theorem QVG:Hw Tryz.prog 64 QQe:=rz (E:=QNN) ⟨aM,(YH QQv (YH QQw (YH QYh Yc))),fun _ _ _=>rfl,mixed,Yt,Y0,Yz⟩ Tryz.func64 fun _ _ h=>(QaR big _).trans h
def QRC:LT:={ live:=[(4,[0,1,5])],keep:=[] }
noncomputable def QNO:Bn:={ tab:=tab,fs:=[],inl:=[] }
noncomputable def QFu (v:Y75):St:={ s:=[(0,(.val ⟨Z6,v.1⟩)),(1,(.val ⟨Z2,v.2.1⟩)),(5,(.val ⟨Z2,v.2.2⟩))],l:=[],k:=[],b:=4096 }
def iU (aI:Y75->Option (Bool)) (v:Y75):Option (Bool):=
 (bif (decide (v.2.2 < (List.length v.1:Int))) then ((Nk v.1 v.2.2).bind fun x2=>(bif (decide (x2.1≥v.2.1)) then (some false) else (bif (decide (v.2.2 > 0)) then (let x3:Int:=(IntKind.i64.wrap (v.2.2 - 1));((Nk v.1 x3).bind fun x4=>((Nk v.1 v.2.2).bind fun x5=>(bif (decide (x4.1≥x5.1)) then (some false) else (let x6:Int:=(IntKind.i64.wrap (v.2.2 - 1));((Nk v.1 x6).bind fun x7=>((Nk v.1 v.2.2).bind fun x8=>(bif (x7.2.1==x8.2.1) then (some false) else (let x9:Int:=(IntKind.i64.wrap (v.2.2+1));(aI (v.1,v.2.1,x9))))))))))) else (let gH:Int:=(IntKind.i64.wrap (v.2.2+1));(aI (v.1,v.2.1,gH)))))) else (some true))
def sP (N:Nat) (aI:Y75->Option (Bool)) (v:Y75):Option (Bool):=iU aI v
theorem QRe (N:Nat) (s0:St->Option (Bool)) (v):(ZR (QNO) QRC 6 N Tryz.f147 [.bool] [false] [] 0 Xv) s0 (QFu v)=sP N (fun v=>s0 (QFu v)) v:=by kernel_rfl
def xQ (aL:Y75->Option (Bool)) (x:aB×Int):Option (Bool):=
 (bif (decide ((List.length x.1:Int) < 1)) then (some false) else ((Nk x.1 (0:Int)).bind fun x1=>(bif (x1.1 != 0) then (some false) else (aL (x.1,x.2,(0:Int))))))
def QDB (N:Nat) (x:aB×Int):Option (Bool):=xQ (Gb (sP N) N) x
theorem QaS (N:Nat) (x:aB×Int):rise (QNO) QRC 6 N Tryz.f147 [Z6,Z2] [.bool] [false] x=QDB N x:=Eq.trans (b:=xQ (fun v=>Ot (ZR (QNO) QRC 6 N Tryz.f147 [.bool] [false] [] 0 Xv) N (QFu v)) x) (by kernel_rfl) (by rw [funext (Tf QFu (QRe N) N)];rfl)
def xB (x:aB×Int):Option (Bool):=QDB big x
def QU3:U0:=⟨[Z6,Z2],[.bool],[false],fun x=>xB x⟩
theorem QYi:Hw Tryz.prog 147 QU3:=rz (E:=QNO) ⟨aM,Yc,fun _ _ _=>rfl,mixed,Yt,Y0,Yz⟩ Tryz.func147 fun _ _ h=>(QaS big _).trans h
def QMJ:LT:={ live:=[(4,[0,3,5]),(9,[3,6])],keep:=[] }
noncomputable def QKL:Bn:={ tab:=tab,fs:=[(64,QQe),(145,Gz3),(146,Gz4),(147,QU3)],inl:=[] }
noncomputable def QFv (v:Int×Zw):St:={ s:=[(3,(.loc 0 [])),(6,(.val ⟨Z2,v.1⟩))],l:=[(0,.var Z0 (.val ⟨Z0,v.2⟩))],k:=[],b:=4096 }
noncomputable def QCb (v:aG×Int×Zw):St:={ s:=[(0,(.val ⟨wh,v.1⟩)),(3,(.loc 0 [])),(5,(.val ⟨Z2,v.2.1⟩))],l:=[(0,.var Z0 (.val ⟨Z0,v.2.2⟩))],k:=[],b:=4096 }
def qm (aI:aG×Int×Zw->Option (Bool)) (aJ:Int×Zw->Option (Bool)) (v:Int×Zw):Option (Bool):=
 (bif (decide (v.1 < (List.length v.2.2.2.2.2.1:Int))) then ((Nk v.2.2.2.2.2.1 v.1).bind fun x6=>((qG x6).bind fun x7=>(bif (x7 != 0) then (some false) else (let x8:Int:=(IntKind.i64.wrap (v.1+1));(aJ (x8,v.2)))))) else ((xB (v.2.2.2.2.2.2.1,(List.length v.2.2.2.2.2.1:Int))).bind fun x9=>(bif x9 then ((xB (v.2.2.2.2.2.2.2.1,(List.length v.2.2.2.2.2.1:Int))).bind fun gH=>(some gH)) else (some false))))
def eU (N:Nat) (aI:aG×Int×Zw->Option (Bool)) (aJ:Int×Zw->Option (Bool)) (v:Int×Zw):Option (Bool):=qm aI aJ v
theorem QRg (N:Nat) (s0:St->Option (Bool)) (s1:St->Option (Bool)) (v):(ZR (QKL) QMJ 6 N Tryz.f113 [.bool] [false] [] 1 Xv) s1 (QFv v)=eU N (fun v=>s0 (QCb v)) (fun v=>s1 (QFv v)) v:=by kernel_rfl
def lT (bH:Int×Zw->Option (Bool)) (aI:aG×Int×Zw->Option (Bool)) (v:aG×Int×Zw):Option (Bool):=
 (bif (decide (v.2.1 < (List.length v.2.2.2.2.2.1:Int))) then ((Nk v.2.2.2.2.2.1 v.2.1).bind fun x3=>(bif (decide (x3.2.1 < 0)) then (some false) else ((Nk v.2.2.2.2.2.1 v.2.1).bind fun x4=>(bif (decide (x4.2.1≥(List.length v.1:Int))) then (some false) else (let x5:Int:=(IntKind.i64.wrap (v.2.1+1));(aI (v.1,x5,v.2.2))))))) else (bH ((0:Int),v.2.2)))
def eT (N:Nat) (aI:aG×Int×Zw->Option (Bool)) (v:aG×Int×Zw):Option (Bool):=lT (Gb (eU N aI) N) aI v
theorem QRf (N:Nat) (s0:St->Option (Bool)) (v):(ZR (QKL) QMJ 6 N Tryz.f113 [.bool] [false] [] 0 Xv) s0 (QCb v)=eT N (fun v=>s0 (QCb v)) v:=Eq.trans (b:=lT (fun v=>Ot (ZR (QKL) QMJ 6 N Tryz.f113 [.bool] [false] [] 1 Xv) N (QFv v)) (fun v=>s0 (QCb v)) v) (by kernel_rfl) (by rw [funext (Tf QFv (QRg N s0) N)];rfl)
def oz (aL:aG×Int×Zw->Option (Bool)) (x:aG×Zw):Option (Bool):=
 ((uY x.2.1).bind fun x1=>(bif (!x1) then (some false) else ((oH (x.2.2.2.2.1,(16:Int))).bind fun x2=>(bif (!x2) then (some false) else (bif (decide (x.2.2.1 < 0)) then (some false) else (bif (decide (x.2.2.1 > (List.length x.2.2.2.2.1:Int))) then (some false) else (bif (decide (x.2.2.2.1 < (-1:Int))) then (some false) else (bif (decide (x.2.2.2.1≥(List.length x.1:Int))) then (some false) else (bif (decide ((List.length x.2.2.2.2.2.1:Int) < 1)) then (some false) else (bif (decide ((List.length x.2.2.2.2.2.1:Int) > 200)) then (some false) else (aL (x.1,(0:Int),x.2))))))))))))
def z8 (N:Nat) (x:aG×Zw):Option (Bool):=oz (Gb (eT N) N) x
theorem QaT (N:Nat) (x:aG×Zw):rise (QKL) QMJ 6 N Tryz.f113 [wh,Z0] [.bool] [false] x=z8 N x:=Eq.trans (b:=oz (fun v=>Ot (ZR (QKL) QMJ 6 N Tryz.f113 [.bool] [false] [] 0 Xv) N (QCb v)) x) (by kernel_rfl) (by rw [funext (Tf QCb (QRf N) N)];rfl)
def uF (x:aG×Zw):Option (Bool):=z8 big x
def QU4:U0:=⟨[wh,Z0],[.bool],[false],fun x=>uF x⟩
theorem QYj:Hw Tryz.prog 113 QU4:=rz (E:=QKL) ⟨aM,(YH QVG (YH Lz3 (YH Lz4 (YH QYi Yc)))),fun _ _ _=>rfl,mixed,Yt,Y0,Yz⟩ Tryz.func113 fun _ _ h=>(QaT big _).trans h
def QFe:LT:={ live:=[(5,[1,3,5]),(10,[1,6]),(15,[1,7]),(20,[1,7,8])],keep:=[] }
noncomputable def QEq:Bn:={ tab:=tab,fs:=[(68,QQd),(112,Gz8),(113,QU4)],inl:=[] }
noncomputable def QFw (v:Y74):St:={ s:=[(1,(.loc 0 [])),(7,(.val ⟨Z2,v.1⟩)),(8,(.val ⟨Z2,v.2.1⟩))],l:=[(0,.var Z1 (.val ⟨Z1,v.2.2⟩))],k:=[],b:=4096 }
noncomputable def QCc (v:Y83):St:={ s:=[(1,(.loc 0 [])),(7,(.val ⟨Z2,v.1⟩))],l:=[(0,.var Z1 (.val ⟨Z1,v.2⟩))],k:=[],b:=4096 }
noncomputable def QAF (v:Y83):St:={ s:=[(1,(.loc 0 [])),(6,(.val ⟨Z2,v.1⟩))],l:=[(0,.var Z1 (.val ⟨Z1,v.2⟩))],k:=[],b:=4096 }
noncomputable def xk (v:yO):St:={ s:=[(1,(.loc 0 [])),(3,(.row 1)),(5,(.val ⟨Z2,v.1⟩))],l:=[(0,.var Z1 (.val ⟨Z1,v.2.1⟩)),(1,.row Z2 v.2.2)],k:=[],b:=4096 }
def xw (aI:yO->Option (Bool)) (aJ:Y83->Option (Bool)) (bL:Y83->Option (Bool)) (xU:Y74->Option (Bool)) (v:Y74):Option (Bool):=
 (bif (decide (v.2.1 < v.1)) then ((Nk v.2.2.2.2.1 v.2.1).bind fun x9=>((Nk v.2.2.2.2.1 v.1).bind fun gH=>(bif (JW .str x9.1 gH.1) then (some false) else (let nV:Int:=(IntKind.i64.wrap (v.2.1+1));(xU (v.1,nV,v.2.2)))))) else (let pU:Int:=(IntKind.i64.wrap (v.1+1));(bL (pU,v.2.2))))
def kW (N:Nat) (aI:yO->Option (Bool)) (aJ:Y83->Option (Bool)) (bL:Y83->Option (Bool)) (xU:Y74->Option (Bool)) (v:Y74):Option (Bool):=xw aI aJ bL xU v
theorem QRk (N:Nat) (s0:St->Option (Bool)) (s1:St->Option (Bool)) (s2:St->Option (Bool)) (s3:St->Option (Bool)) (v):(ZR (QEq) QFe 6 N Tryz.f63 [.bool] [false] [] 3 (Yx s2 Xv)) s3 (QFw v)=kW N (fun v=>s0 (xk v)) (fun v=>s1 (QAF v)) (fun v=>s2 (QCc v)) (fun v=>s3 (QFw v)) v:=by kernel_rfl
def sU (QHX:Y74->Option (Bool)) (aI:yO->Option (Bool)) (aJ:Y83->Option (Bool)) (bL:Y83->Option (Bool)) (v:Y83):Option (Bool):=
 (bif (decide (v.1 < (List.length v.2.2.2.1:Int))) then ((Nk v.2.2.2.1 v.1).bind fun x7=>((uF (v.2.1,x7)).bind fun x8=>(bif (!x8) then (some false) else (QHX (v.1,(0:Int),v.2))))) else (some true))
def kV (N:Nat) (aI:yO->Option (Bool)) (aJ:Y83->Option (Bool)) (bL:Y83->Option (Bool)) (v:Y83):Option (Bool):=sU (Gb (kW N aI aJ bL) N) aI aJ bL v
theorem QRj (N:Nat) (s0:St->Option (Bool)) (s1:St->Option (Bool)) (s2:St->Option (Bool)) (v):(ZR (QEq) QFe 6 N Tryz.f63 [.bool] [false] [] 2 Xv) s2 (QCc v)=kV N (fun v=>s0 (xk v)) (fun v=>s1 (QAF v)) (fun v=>s2 (QCc v)) v:=Eq.trans (b:=sU (fun v=>Ot (ZR (QEq) QFe 6 N Tryz.f63 [.bool] [false] [] 3 (Yx s2 Xv)) N (QFw v)) (fun v=>s0 (xk v)) (fun v=>s1 (QAF v)) (fun v=>s2 (QCc v)) v) (by kernel_rfl) (by rw [funext (Tf QFw (QRk N s0 s1 s2) N)];rfl)
def sS (QAI:Y83->Option (Bool)) (aI:yO->Option (Bool)) (aJ:Y83->Option (Bool)) (v:Y83):Option (Bool):=
 (bif (decide (v.1 < (List.length v.2.2.1:Int))) then ((Nk v.2.2.1 v.1).bind fun x5=>(bif (decide ((List.length x5:Int) > 64)) then (some false) else (let x6:Int:=(IntKind.i64.wrap (v.1+1));(aJ (x6,v.2))))) else (QAI ((0:Int),v.2)))
def kU (N:Nat) (aI:yO->Option (Bool)) (aJ:Y83->Option (Bool)) (v:Y83):Option (Bool):=sS (Gb (kV N aI aJ) N) aI aJ v
theorem QRi (N:Nat) (s0:St->Option (Bool)) (s1:St->Option (Bool)) (v):(ZR (QEq) QFe 6 N Tryz.f63 [.bool] [false] [] 1 Xv) s1 (QAF v)=kU N (fun v=>s0 (xk v)) (fun v=>s1 (QAF v)) v:=Eq.trans (b:=sS (fun v=>Ot (ZR (QEq) QFe 6 N Tryz.f63 [.bool] [false] [] 2 Xv) N (QCc v)) (fun v=>s0 (xk v)) (fun v=>s1 (QAF v)) v) (by kernel_rfl) (by rw [funext (Tf QCc (QRj N s0 s1) N)];rfl)
def sQ (bH:Y83->Option (Bool)) (aI:yO->Option (Bool)) (v:yO):Option (Bool):=
 (bif (decide (v.1 < (List.length v.2.2:Int))) then (bif (decide (0<=v.1)&&decide (v.1 < (List.length v.2.2:Int))) then ((nth v.2.2 (Int.toNat v.1)).bind fun x3=>(bif (decide (x3 > 256)) then (some false) else (let x4:Int:=(IntKind.i64.wrap (v.1+1));(aI (x4,v.2.1,v.2.2))))) else none) else (bH ((0:Int),v.2.1)))
def kT (N:Nat) (aI:yO->Option (Bool)) (v:yO):Option (Bool):=sQ (Gb (kU N aI) N) aI v
theorem QRh (N:Nat) (s0:St->Option (Bool)) (v):(ZR (QEq) QFe 6 N Tryz.f63 [.bool] [false] [] 0 Xv) s0 (xk v)=kT N (fun v=>s0 (xk v)) v:=Eq.trans (b:=sQ (fun v=>Ot (ZR (QEq) QFe 6 N Tryz.f63 [.bool] [false] [] 1 Xv) N (QAF v)) (fun v=>s0 (xk v)) v) (by kernel_rfl) (by rw [funext (Tf QAF (QRi N s0) N)];rfl)
def xR (aL:yO->Option (Bool)) (x:Zx):Option (Bool):=
 ((zG x.1).bind fun x1=>(bif (x1 != 0) then (some false) else (bif (decide ((List.length x.2.1:Int) > 32)) then (some false) else (bif (decide ((List.length x.2.2.1:Int) < 1)) then (some false) else (bif (decide ((List.length x.2.2.1:Int) > 32)) then (some false) else ((uf x.1).bind fun x2=>(aL ((0:Int),x,x2.1))))))))
def QDC (N:Nat) (x:Zx):Option (Bool):=xR (Gb (kT N) N) x
theorem QaU (N:Nat) (x:Zx):rise (QEq) QFe 6 N Tryz.f63 [Z1] [.bool] [false] x=QDC N x:=Eq.trans (b:=xR (fun v=>Ot (ZR (QEq) QFe 6 N Tryz.f63 [.bool] [false] [] 0 Xv) N (xk v)) x) (by kernel_rfl) (by rw [funext (Tf xk (QRh N) N)];rfl)
def QAD (x:Zx):Option (Bool):=QDC big x
def QU5:U0:=⟨[Z1],[.bool],[false],fun x=>QAD x⟩
theorem QYk:Hw Tryz.prog 63 QU5:=rz (E:=QEq) ⟨aM,(YH QUo (YH Lz8 (YH QYj Yc))),fun _ _ _=>rfl,mixed,Yt,Y0,Yz⟩ Tryz.func63 fun _ _ h=>(QaU big _).trans h
def QRD:LT:={ live:=[(2,[0,3])],keep:=[] }
noncomputable def QNP:Bn:={ tab:=tab,fs:=[],inl:=[] }
noncomputable def QFx (v:Int×Zy):St:={ s:=[(0,(.val ⟨yT,v.1⟩)),(3,(.row 0))],l:=[(0,.row mo v.2)],k:=[],b:=4096 }
def rU (aI:Int×Zy->Option (Zy)) (v:Int×Zy):Option (Zy):=
 (bif (decide (v.1≥128)) then (let x1:Int:=(IntKind.u8.wrap (v.1.tmod (128:Int)));(let x2:Int:=(IntKind.u8.wrap (x1+128));(bif (Nat.ble 1 1&&Nat.ble (List.length v.2+List.length ([x2]:Zy)) lim) then (let x3:Zy:=(List.append v.2 ([x2]:Zy));(let x4:Int:=(IntKind.u64.wrap (v.1.tdiv (128:Int)));(aI (x4,x3)))) else none))) else (let x5:Zy:=([(IntKind.u8.wrap v.1)]:Zy);(bif (Nat.ble 1 1&&Nat.ble (List.length v.2+List.length x5) lim) then (some (List.append v.2 x5)) else none)))
def jK (N:Nat) (aI:Int×Zy->Option (Zy)) (v:Int×Zy):Option (Zy):=rU aI v
theorem QRl (N:Nat) (s0:St->Option (Zy)) (v):(ZR (QNP) QRD 6 N Tryz.f73 [Z8] [true] [] 0 Xv) s0 (QFx v)=jK N (fun v=>s0 (QFx v)) v:=by kernel_rfl
def QAQ (aL:Int×Zy->Option (Zy)) (x:Int):Option (Zy):=
 (aL (x,([]:List Int)))
def QAL (N:Nat) (x:Int):Option (Zy):=QAQ (Gb (jK N) N) x
theorem QaV (N:Nat) (x:Int):rise (QNP) QRD 6 N Tryz.f73 [yT] [Z8] [true] x=QAL N x:=Eq.trans (b:=QAQ (fun v=>Ot (ZR (QNP) QRD 6 N Tryz.f73 [Z8] [true] [] 0 Xv) N (QFx v)) x) (by kernel_rfl) (by rw [funext (Tf QFx (QRl N) N)];rfl)
def bF (x:Int):Option (Zy):=QAL big x
def QKT:U0:=⟨[yT],[Z8],[true],fun x=>bF x⟩
theorem QLm:Hw Tryz.prog 73 QKT:=rz (E:=QNP) ⟨aM,Yc,fun _ _ _=>rfl,mixed,Yt,Y0,Yz⟩ Tryz.func73 fun _ _ h=>(QaV big _).trans h
def QZX:LT:={ live:=[],keep:=[] }
noncomputable def QY2:Bn:={ tab:=tab,fs:=[(73,QKT)],inl:=[] }
def yJ (x:Int):Option (Zy):=
 ((bF (IntKind.u64.wrap x)).bind fun x1=>(some x1))
def aS (x:Int):Option (Zy):=yJ x
def QQf:U0:=⟨[Z2],[Z8],[true],fun x=>aS x⟩
theorem QVa:Hw Tryz.prog 70 QQf:=rz (E:=QY2) (lt:=QZX) (lv:=6) (N:=big) ⟨aM,(YH QLm Yc),fun _ _ _=>rfl,mixed,Yt,Y0,Yz⟩ Tryz.func70 fun x _ h=>Eq.trans (b:=aS x) (by kernel_rfl) h
def QZY:LT:={ live:=[],keep:=[] }
noncomputable def QY3:Bn:={ tab:=tab,fs:=[(73,QKT)],inl:=[] }
def QDE (x:Zy):Option (Zy):=
 (let x1:Int:=(IntKind.u64.wrap (List.length x:Int));((bF x1).bind fun x2=>(bif (Nat.ble 1 1&&Nat.ble (List.length x2+List.length x) lim) then (some (List.append x2 x)) else none)))
def l6 (x:Zy):Option (Zy):=QDE x
def QQg:U0:=⟨[.str],[Z8],[true],fun x=>l6 x⟩
theorem QVb:Hw Tryz.prog 72 QQg:=rz (E:=QY3) (lt:=QZY) (lv:=6) (N:=big) ⟨aM,(YH QLm Yc),fun _ _ _=>rfl,mixed,Yt,Y0,Yz⟩ Tryz.func72 fun x _ h=>Eq.trans (b:=l6 x) (by kernel_rfl) h
def QRE:LT:={ live:=[(3,[0,3,4])],keep:=[] }
noncomputable def QNQ:Bn:={ tab:=tab,fs:=[(70,QQf),(72,QQg)],inl:=[] }
noncomputable def QFy (v:aC×Int×Zy):St:={ s:=[(0,(.val ⟨Z9,v.1⟩)),(3,(.row 0)),(4,(.val ⟨Z2,v.2.1⟩))],l:=[(0,.row mo v.2.2)],k:=[],b:=4096 }
def uJ (aI:aC×Int×Zy->Option (Zy)) (v:aC×Int×Zy):Option (Zy):=
 (bif (decide (v.2.1 < (List.length v.1:Int))) then ((Nk v.1 v.2.1).bind fun x2=>((l6 x2.1).bind fun x3=>(bif (Nat.ble 1 1&&Nat.ble (List.length v.2.2+List.length x3) lim) then ((Nk v.1 v.2.1).bind fun x4=>((aS x4.2.1).bind fun x5=>(bif (Nat.ble 1 1&&Nat.ble (List.length (List.append v.2.2 x3)+List.length x5) lim) then (let x6:Zy:=(List.append (List.append v.2.2 x3) x5);(let x7:Int:=(IntKind.i64.wrap (v.2.1+1));(aI (v.1,x7,x6)))) else none))) else none))) else (some v.2.2))
def gP (N:Nat) (aI:aC×Int×Zy->Option (Zy)) (v:aC×Int×Zy):Option (Zy):=uJ aI v
theorem QRm (N:Nat) (s0:St->Option (Zy)) (v):(ZR (QNQ) QRE 6 N Tryz.f71 [Z8] [true] [] 0 Xv) s0 (QFy v)=gP N (fun v=>s0 (QFy v)) v:=by kernel_rfl
def sZ (aL:aC×Int×Zy->Option (Zy)) (x:aC):Option (Zy):=
 ((aS (List.length x:Int)).bind fun x1=>(aL (x,(0:Int),x1)))
def QAx (N:Nat) (x:aC):Option (Zy):=sZ (Gb (gP N) N) x
theorem QaW (N:Nat) (x:aC):rise (QNQ) QRE 6 N Tryz.f71 [Z9] [Z8] [true] x=QAx N x:=Eq.trans (b:=sZ (fun v=>Ot (ZR (QNQ) QRE 6 N Tryz.f71 [Z8] [true] [] 0 Xv) N (QFy v)) x) (by kernel_rfl) (by rw [funext (Tf QFy (QRm N) N)];rfl)
def kR (x:aC):Option (Zy):=QAx big x
def QU6:U0:=⟨[Z9],[Z8],[true],fun x=>kR x⟩
theorem QYl:Hw Tryz.prog 71 QU6:=rz (E:=QNQ) ⟨aM,(YH QVa (YH QVb Yc)),fun _ _ _=>rfl,mixed,Yt,Y0,Yz⟩ Tryz.func71 fun _ _ h=>(QaW big _).trans h
def QZZ:LT:={ live:=[],keep:=[] }
noncomputable def QY4:Bn:={ tab:=tab,fs:=[],inl:=[] }
def QB2 (x:Int):Option (Int):=
 (bif (decide (x≥0)) then (let x1:Int:=(IntKind.u64.wrap ((IntKind.u64.wrap x) * 2));(some x1)) else (let x2:Int:=(IntKind.i64.wrap (x+1));(let x3:Int:=(IntKind.i64.wrap (0 - x2));(let x4:Int:=(IntKind.u64.wrap ((IntKind.u64.wrap x3) * 2));(let x5:Int:=(IntKind.u64.wrap (x4+1));(some x5))))))
def kP (x:Int):Option (Int):=QB2 x
def QQh:U0:=⟨[Z2],[yT],[false],fun x=>kP x⟩
theorem QVc:Hw Tryz.prog 74 QQh:=rz (E:=QY4) (lt:=QZZ) (lv:=6) (N:=big) ⟨aM,Yc,fun _ _ _=>rfl,mixed,Yt,Y0,Yz⟩ Tryz.func74 fun x _ h=>Eq.trans (b:=kP x) (by kernel_rfl) h
def QZa:LT:={ live:=[],keep:=[] }
noncomputable def QY5:Bn:={ tab:=tab,fs:=[],inl:=[] }
def QEx (x:Int):Option (Bool):=
 (bif (x==110) then (some true) else (bif (x==103) then (some true) else (some (x==101))))
def sJ (x:Int):Option (Bool):=QEx x
def QU7:U0:=⟨[mo],[.bool],[false],fun x=>sJ x⟩
theorem QYm:Hw Tryz.prog 117 QU7:=rz (E:=QY5) (lt:=QZa) (lv:=6) (N:=big) ⟨aM,Yc,fun _ _ _=>rfl,mixed,Yt,Y0,Yz⟩ Tryz.func117 fun x _ h=>Eq.trans (b:=sJ x) (by kernel_rfl) h
def QRF:LT:={ live:=[(4,[3,4,5,6])],keep:=[] }
noncomputable def QNR:Bn:={ tab:=tab,fs:=[(66,QNm),(67,QNn),(73,QKT),(74,QQh),(117,QU7)],inl:=[] }
noncomputable def QFz (v:Y72):St:={ s:=[(3,(.row 0)),(4,(.val ⟨.str,v.1⟩)),(5,(.loc 1 [])),(6,(.val ⟨Z2,v.2.1⟩))],l:=[(0,.row mo v.2.2.1),(1,.var Z17 (.val ⟨Z17,v.2.2.2⟩))],k:=[],b:=4096 }
def wD (aI:Y72->Option (Zy)) (v:Y72):Option (Zy):=
 (bif (decide (v.2.1 < 3)) then ((Nk v.1 v.2.1).bind fun x3=>(bif (x3==45) then (let x4:Int:=(IntKind.i64.wrap (v.2.1+1));(aI (v.1,x4,v.2.2.1,v.2.2.2))) else ((Nk v.1 v.2.1).bind fun x5=>((sJ x5).bind fun x6=>(bif x6 then (bif (decide (0<=v.2.1)&&decide (v.2.1 < 3)) then ((nth v.2.2.2 (Int.toNat v.2.1)).bind fun x7=>((kP x7).bind fun x8=>((bF x8).bind fun x9=>(bif (Nat.ble 1 1&&Nat.ble (List.length v.2.2.1+List.length x9) lim) then (let gH:Int:=(IntKind.i64.wrap (v.2.1+1));(aI (v.1,gH,(List.append v.2.2.1 x9),v.2.2.2))) else none)))) else none) else (bif (decide (0<=v.2.1)&&decide (v.2.1 < 3)) then ((nth v.2.2.2 (Int.toNat v.2.1)).bind fun nV=>((bF (IntKind.u64.wrap nV)).bind fun pU=>(bif (Nat.ble 1 1&&Nat.ble (List.length v.2.2.1+List.length pU) lim) then (let rE:Zy:=(List.append v.2.2.1 pU);(let kM:Int:=(IntKind.i64.wrap (v.2.1+1));(aI (v.1,kM,rE,v.2.2.2)))) else none))) else none)))))) else (some v.2.2.1))
def qQ (N:Nat) (aI:Y72->Option (Zy)) (v:Y72):Option (Zy):=wD aI v
theorem QRn (N:Nat) (s0:St->Option (Zy)) (v):(ZR (QNR) QRF 6 N Tryz.f75 [Z8] [true] [] 0 Xv) s0 (QFz v)=qQ N (fun v=>s0 (QFz v)) v:=by kernel_rfl
def vM (aL:Y72->Option (Zy)) (x:aA):Option (Zy):=
 ((jo x.1).bind fun x1=>((bV x).bind fun x2=>(aL (x1,(0:Int),([x.1]:Zy),x2))))
def QC0 (N:Nat) (x:aA):Option (Zy):=vM (Gb (qQ N) N) x
theorem QaX (N:Nat) (x:aA):rise (QNR) QRF 6 N Tryz.f75 [Z3] [Z8] [true] x=QC0 N x:=Eq.trans (b:=vM (fun v=>Ot (ZR (QNR) QRF 6 N Tryz.f75 [Z8] [true] [] 0 Xv) N (QFz v)) x) (by kernel_rfl) (by rw [funext (Tf QFz (QRn N) N)];rfl)
def zI (x:aA):Option (Zy):=QC0 big x
def QU8:U0:=⟨[Z3],[Z8],[true],fun x=>zI x⟩
theorem QYn:Hw Tryz.prog 75 QU8:=rz (E:=QNR) ⟨aM,(YH QQv (YH QQw (YH QLm (YH QVc (YH QYm Yc))))),fun _ _ _=>rfl,mixed,Yt,Y0,Yz⟩ Tryz.func75 fun _ _ h=>(QaX big _).trans h
def QRG:LT:={ live:=[(4,[0,3,4,5])],keep:=[] }
noncomputable def QNS:Bn:={ tab:=tab,fs:=[(73,QKT)],inl:=[] }
noncomputable def QG0 (v:aB×Int×Int×Zy):St:={ s:=[(0,(.val ⟨Z6,v.1⟩)),(3,(.row 0)),(4,(.val ⟨Z2,v.2.1⟩)),(5,(.val ⟨Z2,v.2.2.1⟩))],l:=[(0,.row mo v.2.2.2)],k:=[],b:=4096 }
def mW (aI:aB×Int×Int×Zy->Option (Zy)) (v:aB×Int×Int×Zy):Option (Zy):=
 (bif (decide (v.2.2.1 < (List.length v.1:Int))) then ((Nk v.1 v.2.2.1).bind fun x3=>(let x4:Int:=(IntKind.i64.wrap (x3.1 - v.2.1));((bF (IntKind.u64.wrap x4)).bind fun x5=>(bif (Nat.ble 1 1&&Nat.ble (List.length v.2.2.2+List.length x5) lim) then ((Nk v.1 v.2.2.1).bind fun x6=>((bF x6.2.1).bind fun x7=>(bif (Nat.ble 1 1&&Nat.ble (List.length (List.append v.2.2.2 x5)+List.length x7) lim) then (let x8:Zy:=(List.append (List.append v.2.2.2 x5) x7);((Nk v.1 v.2.2.1).bind fun x9=>(let gH:Int:=(IntKind.i64.wrap (v.2.2.1+1));(aI (v.1,x9.1,gH,x8))))) else none))) else none)))) else (some v.2.2.2))
def qU (N:Nat) (aI:aB×Int×Int×Zy->Option (Zy)) (v:aB×Int×Int×Zy):Option (Zy):=mW aI v
theorem QRo (N:Nat) (s0:St->Option (Zy)) (v):(ZR (QNS) QRG 6 N Tryz.f76 [Z8] [true] [] 0 Xv) s0 (QG0 v)=qU N (fun v=>s0 (QG0 v)) v:=by kernel_rfl
def vO (aL:aB×Int×Int×Zy->Option (Zy)) (x:aB):Option (Zy):=
 (let x1:Int:=(IntKind.u64.wrap (List.length x:Int));((bF x1).bind fun x2=>(aL (x,(0:Int),(0:Int),x2))))
def QC2 (N:Nat) (x:aB):Option (Zy):=vO (Gb (qU N) N) x
theorem QaY (N:Nat) (x:aB):rise (QNS) QRG 6 N Tryz.f76 [Z6] [Z8] [true] x=QC2 N x:=Eq.trans (b:=vO (fun v=>Ot (ZR (QNS) QRG 6 N Tryz.f76 [Z8] [true] [] 0 Xv) N (QG0 v)) x) (by kernel_rfl) (by rw [funext (Tf QG0 (QRo N) N)];rfl)
def uh (x:aB):Option (Zy):=QC2 big x
def QU9:U0:=⟨[Z6],[Z8],[true],fun x=>uh x⟩
theorem QYo:Hw Tryz.prog 76 QU9:=rz (E:=QNS) ⟨aM,(YH QLm Yc),fun _ _ _=>rfl,mixed,Yt,Y0,Yz⟩ Tryz.func76 fun _ _ h=>(QaY big _).trans h
def QFf:LT:={ live:=[(3,[1,3,4]),(17,[1,3,6]),(22,[1,3,7]),(29,[1,3,7,8,9])],keep:=[] }
noncomputable def QEr:Bn:={ tab:=tab,fs:=[(70,QQf),(71,QU6),(72,QQg),(73,QKT),(74,QQh),(75,QU8),(76,QU9)],inl:=[] }
noncomputable def QG1 (v:Y56):St:={ s:=[(1,(.loc 0 [])),(3,(.row 1)),(7,(.val ⟨Z2,v.1⟩)),(8,(.loc 2 [])),(9,(.val ⟨Z2,v.2.1⟩))],l:=[(0,.var Z1 (.val ⟨Z1,v.2.2.1⟩)),(1,.row mo v.2.2.2.1),(2,.var Z0 (.val ⟨Z0,v.2.2.2.2⟩))],k:=[],b:=4096 }
noncomputable def QCd (v:yO):St:={ s:=[(1,(.loc 0 [])),(3,(.row 1)),(7,(.val ⟨Z2,v.1⟩))],l:=[(0,.var Z1 (.val ⟨Z1,v.2.1⟩)),(1,.row mo v.2.2)],k:=[],b:=4096 }
noncomputable def QAG (v:yO):St:={ s:=[(1,(.loc 0 [])),(3,(.row 1)),(6,(.val ⟨Z2,v.1⟩))],l:=[(0,.var Z1 (.val ⟨Z1,v.2.1⟩)),(1,.row mo v.2.2)],k:=[],b:=4096 }
noncomputable def xq (v:yO):St:={ s:=[(1,(.loc 0 [])),(3,(.row 1)),(4,(.val ⟨Z2,v.1⟩))],l:=[(0,.var Z1 (.val ⟨Z1,v.2.1⟩)),(1,.row mo v.2.2)],k:=[],b:=4096 }
def wE (aI:yO->Option (Zy)) (aJ:yO->Option (Zy)) (bL:yO->Option (Zy)) (xU:Y56->Option (Zy)) (v:Y56):Option (Zy):=
 (bif (decide (v.2.1 < (List.length v.2.2.2.2.2.2.2.2.1:Int))) then ((Nk v.2.2.2.2.2.2.2.2.1 v.2.1).bind fun x36=>((zI x36).bind fun x37=>(bif (Nat.ble 1 1&&Nat.ble (List.length v.2.2.2.1+List.length x37) lim) then (let x38:Zy:=(List.append v.2.2.2.1 x37);(let x39:Int:=(IntKind.i64.wrap (v.2.1+1));(xU (v.1,x39,v.2.2.1,x38,v.2.2.2.2)))) else none))) else ((uh v.2.2.2.2.2.2.2.2.2.1).bind fun x40=>(bif (Nat.ble 1 1&&Nat.ble (List.length v.2.2.2.1+List.length x40) lim) then (let x41:Zy:=(List.append v.2.2.2.1 x40);((uh v.2.2.2.2.2.2.2.2.2.2.1).bind fun x42=>(bif (Nat.ble 1 1&&Nat.ble (List.length x41+List.length x42) lim) then (let x43:Int:=(IntKind.i64.wrap (v.1+1));(bL (x43,v.2.2.1,(List.append x41 x42)))) else none))) else none)))
def jP (N:Nat) (aI:yO->Option (Zy)) (aJ:yO->Option (Zy)) (bL:yO->Option (Zy)) (xU:Y56->Option (Zy)) (v:Y56):Option (Zy):=wE aI aJ bL xU v
theorem QRs (N:Nat) (s0:St->Option (Zy)) (s1:St->Option (Zy)) (s2:St->Option (Zy)) (s3:St->Option (Zy)) (v):(ZR (QEr) QFf 6 N Tryz.f39 [Z8] [true] [] 3 (Yx s2 Xv)) s3 (QG1 v)=jP N (fun v=>s0 (xq v)) (fun v=>s1 (QAG v)) (fun v=>s2 (QCd v)) (fun v=>s3 (QG1 v)) v:=by kernel_rfl
def qh (QHX:Y56->Option (Zy)) (aI:yO->Option (Zy)) (aJ:yO->Option (Zy)) (bL:yO->Option (Zy)) (v:yO):Option (Zy):=
 (bif (decide (v.1 < (List.length v.2.1.2.2.1:Int))) then ((Nk v.2.1.2.2.1 v.1).bind fun x27=>((l6 x27.1).bind fun x28=>(bif (Nat.ble 1 1&&Nat.ble (List.length v.2.2+List.length x28) lim) then ((aS x27.2.1).bind fun x29=>(bif (Nat.ble 1 1&&Nat.ble (List.length (List.append v.2.2 x28)+List.length x29) lim) then (let x30:Zy:=(List.append (List.append v.2.2 x28) x29);((kP x27.2.2.1).bind fun x31=>((bF x31).bind fun x32=>(bif (Nat.ble 1 1&&Nat.ble (List.length x30+List.length x32) lim) then ((kR x27.2.2.2.1).bind fun x33=>(bif (Nat.ble 1 1&&Nat.ble (List.length (List.append x30 x32)+List.length x33) lim) then (let x34:Zy:=(List.append (List.append x30 x32) x33);((aS (List.length x27.2.2.2.2.1:Int)).bind fun x35=>(bif (Nat.ble 1 1&&Nat.ble (List.length x34+List.length x35) lim) then (QHX (v.1,(0:Int),v.2.1,(List.append x34 x35),x27)) else none))) else none)) else none)))) else none)) else none))) else (some v.2.2))
def jO (N:Nat) (aI:yO->Option (Zy)) (aJ:yO->Option (Zy)) (bL:yO->Option (Zy)) (v:yO):Option (Zy):=qh (Gb (jP N aI aJ bL) N) aI aJ bL v
theorem QRr (N:Nat) (s0:St->Option (Zy)) (s1:St->Option (Zy)) (s2:St->Option (Zy)) (v):(ZR (QEr) QFf 6 N Tryz.f39 [Z8] [true] [] 2 Xv) s2 (QCd v)=jO N (fun v=>s0 (xq v)) (fun v=>s1 (QAG v)) (fun v=>s2 (QCd v)) v:=Eq.trans (b:=qh (fun v=>Ot (ZR (QEr) QFf 6 N Tryz.f39 [Z8] [true] [] 3 (Yx s2 Xv)) N (QG1 v)) (fun v=>s0 (xq v)) (fun v=>s1 (QAG v)) (fun v=>s2 (QCd v)) v) (by kernel_rfl) (by rw [funext (Tf QG1 (QRs N s0 s1 s2) N)];rfl)
def qg (QAI:yO->Option (Zy)) (aI:yO->Option (Zy)) (aJ:yO->Option (Zy)) (v:yO):Option (Zy):=
 (bif (decide (v.1 < (List.length v.2.1.2.1:Int))) then ((Nk v.2.1.2.1 v.1).bind fun x23=>((l6 x23).bind fun x24=>(bif (Nat.ble 1 1&&Nat.ble (List.length v.2.2+List.length x24) lim) then (let x25:Int:=(IntKind.i64.wrap (v.1+1));(aJ (x25,v.2.1,(List.append v.2.2 x24)))) else none))) else ((aS (List.length v.2.1.2.2.1:Int)).bind fun x26=>(bif (Nat.ble 1 1&&Nat.ble (List.length v.2.2+List.length x26) lim) then (QAI ((0:Int),v.2.1,(List.append v.2.2 x26))) else none)))
def jN (N:Nat) (aI:yO->Option (Zy)) (aJ:yO->Option (Zy)) (v:yO):Option (Zy):=qg (Gb (jO N aI aJ) N) aI aJ v
theorem QRq (N:Nat) (s0:St->Option (Zy)) (s1:St->Option (Zy)) (v):(ZR (QEr) QFf 6 N Tryz.f39 [Z8] [true] [] 1 Xv) s1 (QAG v)=jN N (fun v=>s0 (xq v)) (fun v=>s1 (QAG v)) v:=Eq.trans (b:=qg (fun v=>Ot (ZR (QEr) QFf 6 N Tryz.f39 [Z8] [true] [] 2 Xv) N (QCd v)) (fun v=>s0 (xq v)) (fun v=>s1 (QAG v)) v) (by kernel_rfl) (by rw [funext (Tf QCd (QRr N s0 s1) N)];rfl)
def qd (bH:yO->Option (Zy)) (aI:yO->Option (Zy)) (v:yO):Option (Zy):=
 (bif (decide (v.1 < (List.length v.2.1.1:Int))) then ((Nk v.2.1.1 v.1).bind fun x2=>(bif (Nat.ble 1 1&&Nat.ble (List.length v.2.2+List.length ([x2.1]:Zy)) lim) then (let x3:Zy:=(List.append v.2.2 ([x2.1]:Zy));(bif (x2.1==4) then (bif (x2.1==4) then ((aS x2.2.1).bind fun x4=>(bif (Nat.ble 1 1&&Nat.ble (List.length x3+List.length x4) lim) then (let x5:Int:=(IntKind.i64.wrap (v.1+1));(aI (x5,v.2.1,(List.append x3 x4)))) else none)) else (bif (x2.1==6) then ((aS x2.2.1).bind fun x6=>(bif (Nat.ble 1 1&&Nat.ble (List.length x3+List.length x6) lim) then ((aS x2.2.2.1).bind fun x7=>(bif (Nat.ble 1 1&&Nat.ble (List.length (List.append x3 x6)+List.length x7) lim) then (let x8:Zy:=(List.append (List.append x3 x6) x7);(let x9:Int:=(IntKind.i64.wrap (v.1+1));(aI (x9,v.2.1,x8)))) else none)) else none)) else (bif (x2.1==5) then ((kR x2.2.2.2.1).bind fun gH=>(bif (Nat.ble 1 1&&Nat.ble (List.length x3+List.length gH) lim) then (let nV:Int:=(IntKind.i64.wrap (v.1+1));(aI (nV,v.2.1,(List.append x3 gH)))) else none)) else (let pU:Int:=(IntKind.i64.wrap (v.1+1));(aI (pU,v.2.1,x3)))))) else (bif (x2.1==7) then ((aS x2.2.1).bind fun rE=>(bif (Nat.ble 1 1&&Nat.ble (List.length x3+List.length rE) lim) then (let kM:Int:=(IntKind.i64.wrap (v.1+1));(aI (kM,v.2.1,(List.append x3 rE)))) else none)) else (bif (x2.1==6) then ((aS x2.2.1).bind fun jf=>(bif (Nat.ble 1 1&&Nat.ble (List.length x3+List.length jf) lim) then ((aS x2.2.2.1).bind fun vU=>(bif (Nat.ble 1 1&&Nat.ble (List.length (List.append x3 jf)+List.length vU) lim) then (let yQ:Zy:=(List.append (List.append x3 jf) vU);(let x18:Int:=(IntKind.i64.wrap (v.1+1));(aI (x18,v.2.1,yQ)))) else none)) else none)) else (bif (x2.1==5) then ((kR x2.2.2.2.1).bind fun zh=>(bif (Nat.ble 1 1&&Nat.ble (List.length x3+List.length zh) lim) then (let x20:Int:=(IntKind.i64.wrap (v.1+1));(aI (x20,v.2.1,(List.append x3 zh)))) else none)) else (let x21:Int:=(IntKind.i64.wrap (v.1+1));(aI (x21,v.2.1,x3)))))))) else none)) else ((aS (List.length v.2.1.2.1:Int)).bind fun x22=>(bif (Nat.ble 1 1&&Nat.ble (List.length v.2.2+List.length x22) lim) then (bH ((0:Int),v.2.1,(List.append v.2.2 x22))) else none)))
def jM (N:Nat) (aI:yO->Option (Zy)) (v:yO):Option (Zy):=qd (Gb (jN N aI) N) aI v
theorem QRp (N:Nat) (s0:St->Option (Zy)) (v):(ZR (QEr) QFf 6 N Tryz.f39 [Z8] [true] [] 0 Xv) s0 (xq v)=jM N (fun v=>s0 (xq v)) v:=Eq.trans (b:=qd (fun v=>Ot (ZR (QEr) QFf 6 N Tryz.f39 [Z8] [true] [] 1 Xv) N (QAG v)) (fun v=>s0 (xq v)) v) (by kernel_rfl) (by rw [funext (Tf QAG (QRq N s0) N)];rfl)
def vP (aL:yO->Option (Zy)) (x:Zx):Option (Zy):=
 ((aS (List.length x.1:Int)).bind fun x1=>(aL ((0:Int),x,x1)))
def QC4 (N:Nat) (x:Zx):Option (Zy):=vP (Gb (jM N) N) x
theorem QaZ (N:Nat) (x:Zx):rise (QEr) QFf 6 N Tryz.f39 [Z1] [Z8] [true] x=QC4 N x:=Eq.trans (b:=vP (fun v=>Ot (ZR (QEr) QFf 6 N Tryz.f39 [Z8] [true] [] 0 Xv) N (xq v)) x) (by kernel_rfl) (by rw [funext (Tf xq (QRp N) N)];rfl)
def zK (x:Zx):Option (Zy):=QC4 big x
def QUA:U0:=⟨[Z1],[Z8],[true],fun x=>zK x⟩
theorem QYp:Hw Tryz.prog 39 QUA:=rz (E:=QEr) ⟨aM,(YH QVa (YH QYl (YH QVb (YH QLm (YH QVc (YH QYn (YH QYo Yc))))))),fun _ _ _=>rfl,mixed,Yt,Y0,Yz⟩ Tryz.func39 fun _ _ h=>(QaZ big _).trans h
def QZb:LT:={ live:=[],keep:=[] }
noncomputable def QY6:Bn:={ tab:=tab,fs:=[(39,QUA),(63,QU5)],inl:=[] }
def zX (x:Zx):Option (Int):=
 ((QAD x).bind fun x1=>(bif (!x1) then (some (8:Int)) else ((zK x).bind fun x2=>(bif (decide ((List.length x2:Int) > 20000)) then (some (4:Int)) else (some (0:Int))))))
def uj (x:Zx):Option (Int):=zX x
def QUB:U0:=⟨[Z1],[Z2],[false],fun x=>uj x⟩
theorem QYq:Hw Tryz.prog 27 QUB:=rz (E:=QY6) (lt:=QZb) (lv:=6) (N:=big) ⟨aM,(YH QYp (YH QYk Yc)),fun _ _ _=>rfl,mixed,Yt,Y0,Yz⟩ Tryz.func27 fun x _ h=>Eq.trans (b:=uj x) (by kernel_rfl) h
def QWJ:LT:={ live:=[],keep:=[] }
noncomputable def QTj:Bn:={ tab:=tab,fs:=[],inl:=[] }
def QIS (x:Unit):Option (aA):=
 (let x1:aA:=((34:Int),((-1:Int),((0:Int),((0:Int),()))));(some x1))
def zD (x:Unit):Option (aA):=QIS x
def QPa:U0:=⟨[],[Z3],[false],fun x=>zD x⟩
theorem QVH:Hw Tryz.prog 40 QPa:=rz (E:=QTj) (lt:=QWJ) (lv:=6) (N:=big) ⟨aM,Yc,fun _ _ _=>rfl,mixed,Yt,Y0,Yz⟩ Tryz.func40 fun x _ h=>Eq.trans (b:=zD x) (by kernel_rfl) h
def QWK:LT:={ live:=[],keep:=[] }
noncomputable def QTk:Bn:={ tab:=tab,fs:=[(40,QPa)],inl:=[],vl:=[6,11,15,19,22,24,26,28] }
def QGg (x:aA):Option (Zx):=
 (let x1:Zz:=((2:Int),((0:Int),((0:Int),(([]:aC),()))));(let x2:aG:=([x1]:aG);(let x3:(Zy×Y20):=(([110]:List Int),((0:Int),()));(let x4:aC:=([x3]:aC);(let x5:aA:=((1:Int),((0:Int),((7:Int),((0:Int),()))));(let x6:aA:=((25:Int),((-1:Int),((1:Int),((0:Int),()))));((zD ()).bind fun x7=>(let x8:aF:=([x5,x,x6,x7]:aF);(let x9:yx:=((0:Int),((0:Int),()));(let gH:yx:=((2:Int),((8:Int),()));(let nV:yx:=((3:Int),((0:Int),()));(let pU:aB:=([x9,gH,nV]:aB);(let rE:yx:=((0:Int),((0:Int),()));(let kM:yx:=((1:Int),((1:Int),()));(let jf:yx:=((3:Int),((0:Int),()));(let vU:aB:=([rE,kM,jf]:aB);(let yQ:Zw:=(([109,97,105,110]:List Int),((0:Int),((-1:Int),(x4,(x8,(pU,(vU,())))))));(let x18:(Zy×Y20):=(([97]:List Int),((0:Int),()));(let zh:aC:=([x18]:aC);((zD ()).bind fun x20=>(let x21:aF:=([x20]:aF);(let x22:yx:=((0:Int),((0:Int),()));(let x23:aB:=([x22]:aB);(let x24:yx:=((0:Int),((0:Int),()));(let x25:aB:=([x24]:aB);(let x26:Zw:=(([102]:List Int),((1:Int),((-1:Int),(zh,(x21,(x23,(x25,())))))));(let x27:Y17:=([yQ,x26]:Y17);(some (x2,(([]:List Zy),(x27,())))))))))))))))))))))))))))))))
def uW (x:aA):Option (Zx):=QGg x
def QPb:U0:=⟨[Z3],[Z1],[false],fun x=>uW x⟩
theorem QVI:Hw Tryz.prog 12 QPb:=rz (E:=QTk) (lt:=QWK) (lv:=6) (N:=big) ⟨aM,(YH QVH Yc),fun _ _ _=>rfl,mixed,Yt,Y0,Yz⟩ Tryz.func12 fun x _ h=>Eq.trans (b:=uW x) (by kernel_rfl) h
def QWL:LT:={ live:=[],keep:=[] }
noncomputable def QTl:Bn:={ tab:=tab,fs:=[(19,QLb),(23,QLc)],inl:=[] }
def QGf (x:Zx×Int×Int×Int):Option (Bool):=
 ((pY x.1).bind fun x1=>(bif (x1.1==x.2.1) then (bif (x1.2.1==x.2.2.1) then (bif (x1.2.2==x.2.2.2) then ((pX x.1).bind fun x2=>(some (x2==x.2.2.2))) else (some false)) else (some false)) else (some false)))
def uV (x:Zx×Int×Int×Int):Option (Bool):=QGf x
def QPc:U0:=⟨[Z1,Z2,Z2,Z2],[.bool],[false],fun x=>uV x⟩
theorem QVJ:Hw Tryz.prog 10 QPc:=rz (E:=QTl) (lt:=QWL) (lv:=6) (N:=big) ⟨aM,(YH QQ3 (YH QQ4 Yc)),fun _ _ _=>rfl,mixed,Yt,Y0,Yz⟩ Tryz.func10 fun x _ h=>Eq.trans (b:=uV x) (by kernel_rfl) h
def QWM:LT:={ live:=[],keep:=[] }
noncomputable def QTm:Bn:={ tab:=tab,fs:=[(10,QPc),(12,QPb)],inl:=[] }
def QGe (x:Unit):Option (Bool):=
 (let x1:aA:=((24:Int),((0:Int),((0:Int),((0:Int),()))));((uW x1).bind fun x2=>((uV (x2,(0:Int),(0:Int),(0:Int))).bind fun x3=>(bif x3 then (let x4:aA:=((31:Int),((0:Int),((0:Int),((0:Int),()))));((uW x4).bind fun x5=>((uV (x5,(0:Int),(-1:Int),(36:Int))).bind fun x6=>(some x6)))) else (some false)))))
def aW (x:Unit):Option (Bool):=QGe x
def QPd:U0:=⟨[],[.bool],[false],fun x=>aW x⟩
theorem QVK:Hw Tryz.prog 17 QPd:=rz (E:=QTm) (lt:=QWM) (lv:=6) (N:=big) ⟨aM,(YH QVJ (YH QVI Yc)),fun _ _ _=>rfl,mixed,Yt,Y0,Yz⟩ Tryz.func17 fun x _ h=>Eq.trans (b:=aW x) (by kernel_rfl) h
def QMB:LT:={ live:=[(4,[0,3])],keep:=[] }
noncomputable def QJ9:Bn:={ tab:=tab,fs:=[(64,QQe)],inl:=[] }
noncomputable def QDl (v:aF×Int):St:={ s:=[(0,(.val ⟨ru,v.1⟩)),(3,(.val ⟨Z2,v.2⟩))],l:=[],k:=[],b:=4096 }
def jZ (aI:aF×Int->Option (Int)) (v:aF×Int):Option (Int):=
 (bif (decide (v.2 < (List.length v.1:Int))) then ((Nk v.1 v.2).bind fun x1=>((qG x1).bind fun x2=>(bif (x2 != 0) then (some (8:Int)) else (bif (x1.1==22) then (bif (decide (x1.2.1≥(List.length v.1:Int))) then (some (8:Int)) else (bif (x1.1==23) then (bif (decide (x1.2.2.1≥(List.length v.1:Int))) then (some (8:Int)) else (let x3:Int:=(IntKind.i64.wrap (v.2+1));(aI (v.1,x3)))) else (let x4:Int:=(IntKind.i64.wrap (v.2+1));(aI (v.1,x4))))) else (bif (x1.1==23) then (bif (decide (x1.2.2.1≥(List.length v.1:Int))) then (some (8:Int)) else (let x5:Int:=(IntKind.i64.wrap (v.2+1));(aI (v.1,x5)))) else (let x6:Int:=(IntKind.i64.wrap (v.2+1));(aI (v.1,x6)))))))) else (let x7:Int:=(IntKind.i64.wrap ((List.length v.1:Int) - 1));((Nk v.1 x7).bind fun x8=>(let x9:aA:=((34:Int),((-1:Int),((0:Int),((0:Int),()))));(bif (!(JW Z3 x8 x9)) then (some (8:Int)) else (some (0:Int)))))))
def qR (N:Nat) (aI:aF×Int->Option (Int)) (v:aF×Int):Option (Int):=jZ aI v
theorem QOV (N:Nat) (s0:St->Option (Int)) (v):(ZR (QJ9) QMB 6 N Tryz.f28 [Z2] [false] [] 0 Xv) s0 (QDl v)=qR N (fun v=>s0 (QDl v)) v:=by kernel_rfl
def vN (aL:aF×Int->Option (Int)) (x:aF):Option (Int):=
 (bif (decide ((List.length x:Int) < 1)) then (some (8:Int)) else (bif (decide ((List.length x:Int) > 200)) then (some (8:Int)) else (aL (x,(0:Int)))))
def QC1 (N:Nat) (x:aF):Option (Int):=vN (Gb (qR N) N) x
theorem QXU (N:Nat) (x:aF):rise (QJ9) QMB 6 N Tryz.f28 [ru] [Z2] [false] x=QC1 N x:=Eq.trans (b:=vN (fun v=>Ot (ZR (QJ9) QMB 6 N Tryz.f28 [Z2] [false] [] 0 Xv) N (QDl v)) x) (by kernel_rfl) (by rw [funext (Tf QDl (QOV N) N)];rfl)
def zJ (x:aF):Option (Int):=QC1 big x
def QPe:U0:=⟨[ru],[Z2],[false],fun x=>zJ x⟩
theorem QVL:Hw Tryz.prog 28 QPe:=rz (E:=QJ9) ⟨aM,(YH QVG Yc),fun _ _ _=>rfl,mixed,Yt,Y0,Yz⟩ Tryz.func28 fun _ _ h=>(QXU big _).trans h
def QWN:LT:={ live:=[],keep:=[] }
noncomputable def QTn:Bn:={ tab:=tab,fs:=[],inl:=[] }
def zW (x:Int):Option (Int):=
 (bif (decide (x < 0)) then none else (let x1:Int:=(IntKind.u64.wrap ((1:Int) * 2 ^ (min (Int.toNat x) 64)));(let x2:Int:=(IntKind.u64.wrap (x1 - 1));(some x2))))
def ug (x:Int):Option (Int):=zW x
def QPf:U0:=⟨[Z2],[yT],[false],fun x=>ug x⟩
theorem QVM:Hw Tryz.prog 29 QPf:=rz (E:=QTn) (lt:=QWN) (lv:=6) (N:=big) ⟨aM,Yc,fun _ _ _=>rfl,mixed,Yt,Y0,Yz⟩ Tryz.func29 fun x _ h=>Eq.trans (b:=ug x) (by kernel_rfl) h
def QMC:LT:={ live:=[(4,[4,5,6,7,8])],keep:=[] }
noncomputable def QJA:Bn:={ tab:=tab,fs:=[(66,QNm),(67,QNn)],inl:=[] }
noncomputable def QDm (v:Y64):St:={ s:=[(4,(.row 0)),(5,(.row 1)),(6,(.val ⟨.str,v.1⟩)),(7,(.loc 2 [])),(8,(.val ⟨Z2,v.2.1⟩))],l:=[(0,.row Z2 v.2.2.1),(1,.row Z2 v.2.2.2.1),(2,.var Z17 (.val ⟨Z17,v.2.2.2.2⟩))],k:=[],b:=4096 }
def rV (aI:Y64->Option Y24) (v:Y64):Option Y24:=
 (bif (decide (v.2.1 < 3)) then ((Nk v.1 v.2.1).bind fun x3=>(bif (x3==114) then (bif (decide (0<=v.2.1)&&decide (v.2.1 < 3)) then ((nth v.2.2.2.2 (Int.toNat v.2.1)).bind fun x4=>(bif (decide (x4≥0)) then (bif (decide (0<=v.2.1)&&decide (v.2.1 < 3)) then ((nth v.2.2.2.2 (Int.toNat v.2.1)).bind fun x5=>(bif (Nat.ble 1 1&&Nat.ble (List.length v.2.2.1+List.length ([x5]:Zy)) lim) then (let x6:Zy:=(List.append v.2.2.1 ([x5]:Zy));((Nk v.1 v.2.1).bind fun x7=>(bif (x7==119) then (bif (decide (0<=v.2.1)&&decide (v.2.1 < 3)) then ((nth v.2.2.2.2 (Int.toNat v.2.1)).bind fun x8=>(bif (decide (x8≥0)) then (bif (decide (0<=v.2.1)&&decide (v.2.1 < 3)) then ((nth v.2.2.2.2 (Int.toNat v.2.1)).bind fun x9=>(bif (Nat.ble 1 1&&Nat.ble (List.length v.2.2.2.1+List.length ([x9]:Zy)) lim) then (let gH:Zy:=(List.append v.2.2.2.1 ([x9]:Zy));(let nV:Int:=(IntKind.i64.wrap (v.2.1+1));(aI (v.1,nV,x6,gH,v.2.2.2.2)))) else none)) else none) else (let pU:Int:=(IntKind.i64.wrap (v.2.1+1));(aI (v.1,pU,x6,v.2.2.2.1,v.2.2.2.2))))) else none) else ((Nk v.1 v.2.1).bind fun rE=>(bif (rE==103) then (bif (decide (0<=v.2.1)&&decide (v.2.1 < 3)) then ((nth v.2.2.2.2 (Int.toNat v.2.1)).bind fun kM=>(bif (decide (kM≥0)) then (bif (decide (0<=v.2.1)&&decide (v.2.1 < 3)) then ((nth v.2.2.2.2 (Int.toNat v.2.1)).bind fun jf=>(bif (Nat.ble 1 1&&Nat.ble (List.length v.2.2.2.1+List.length ([jf]:Zy)) lim) then (let vU:Zy:=(List.append v.2.2.2.1 ([jf]:Zy));(let yQ:Int:=(IntKind.i64.wrap (v.2.1+1));(aI (v.1,yQ,x6,vU,v.2.2.2.2)))) else none)) else none) else (let x18:Int:=(IntKind.i64.wrap (v.2.1+1));(aI (v.1,x18,x6,v.2.2.2.1,v.2.2.2.2))))) else none) else (let zh:Int:=(IntKind.i64.wrap (v.2.1+1));(aI (v.1,zh,x6,v.2.2.2.1,v.2.2.2.2)))))))) else none)) else none) else ((Nk v.1 v.2.1).bind fun x20=>(bif (x20==119) then (bif (decide (0<=v.2.1)&&decide (v.2.1 < 3)) then ((nth v.2.2.2.2 (Int.toNat v.2.1)).bind fun x21=>(bif (decide (x21≥0)) then (bif (decide (0<=v.2.1)&&decide (v.2.1 < 3)) then ((nth v.2.2.2.2 (Int.toNat v.2.1)).bind fun x22=>(bif (Nat.ble 1 1&&Nat.ble (List.length v.2.2.2.1+List.length ([x22]:Zy)) lim) then (let x23:Zy:=(List.append v.2.2.2.1 ([x22]:Zy));(let x24:Int:=(IntKind.i64.wrap (v.2.1+1));(aI (v.1,x24,v.2.2.1,x23,v.2.2.2.2)))) else none)) else none) else (let x25:Int:=(IntKind.i64.wrap (v.2.1+1));(aI (v.1,x25,v.2.2.1,v.2.2.2.1,v.2.2.2.2))))) else none) else ((Nk v.1 v.2.1).bind fun x26=>(bif (x26==103) then (bif (decide (0<=v.2.1)&&decide (v.2.1 < 3)) then ((nth v.2.2.2.2 (Int.toNat v.2.1)).bind fun x27=>(bif (decide (x27≥0)) then (bif (decide (0<=v.2.1)&&decide (v.2.1 < 3)) then ((nth v.2.2.2.2 (Int.toNat v.2.1)).bind fun x28=>(bif (Nat.ble 1 1&&Nat.ble (List.length v.2.2.2.1+List.length ([x28]:Zy)) lim) then (let x29:Zy:=(List.append v.2.2.2.1 ([x28]:Zy));(let x30:Int:=(IntKind.i64.wrap (v.2.1+1));(aI (v.1,x30,v.2.2.1,x29,v.2.2.2.2)))) else none)) else none) else (let x31:Int:=(IntKind.i64.wrap (v.2.1+1));(aI (v.1,x31,v.2.2.1,v.2.2.2.1,v.2.2.2.2))))) else none) else (let x32:Int:=(IntKind.i64.wrap (v.2.1+1));(aI (v.1,x32,v.2.2.1,v.2.2.2.1,v.2.2.2.2))))))))) else none) else ((Nk v.1 v.2.1).bind fun x33=>(bif (x33==101) then (bif (decide (0<=v.2.1)&&decide (v.2.1 < 3)) then ((nth v.2.2.2.2 (Int.toNat v.2.1)).bind fun x34=>(bif (decide (x34≥0)) then (bif (decide (0<=v.2.1)&&decide (v.2.1 < 3)) then ((nth v.2.2.2.2 (Int.toNat v.2.1)).bind fun x35=>(bif (Nat.ble 1 1&&Nat.ble (List.length v.2.2.1+List.length ([x35]:Zy)) lim) then (let x36:Zy:=(List.append v.2.2.1 ([x35]:Zy));((Nk v.1 v.2.1).bind fun x37=>(bif (x37==119) then (bif (decide (0<=v.2.1)&&decide (v.2.1 < 3)) then ((nth v.2.2.2.2 (Int.toNat v.2.1)).bind fun x38=>(bif (decide (x38≥0)) then (bif (decide (0<=v.2.1)&&decide (v.2.1 < 3)) then ((nth v.2.2.2.2 (Int.toNat v.2.1)).bind fun x39=>(bif (Nat.ble 1 1&&Nat.ble (List.length v.2.2.2.1+List.length ([x39]:Zy)) lim) then (let x40:Zy:=(List.append v.2.2.2.1 ([x39]:Zy));(let x41:Int:=(IntKind.i64.wrap (v.2.1+1));(aI (v.1,x41,x36,x40,v.2.2.2.2)))) else none)) else none) else (let x42:Int:=(IntKind.i64.wrap (v.2.1+1));(aI (v.1,x42,x36,v.2.2.2.1,v.2.2.2.2))))) else none) else ((Nk v.1 v.2.1).bind fun x43=>(bif (x43==103) then (bif (decide (0<=v.2.1)&&decide (v.2.1 < 3)) then ((nth v.2.2.2.2 (Int.toNat v.2.1)).bind fun x44=>(bif (decide (x44≥0)) then (bif (decide (0<=v.2.1)&&decide (v.2.1 < 3)) then ((nth v.2.2.2.2 (Int.toNat v.2.1)).bind fun x45=>(bif (Nat.ble 1 1&&Nat.ble (List.length v.2.2.2.1+List.length ([x45]:Zy)) lim) then (let x46:Zy:=(List.append v.2.2.2.1 ([x45]:Zy));(let x47:Int:=(IntKind.i64.wrap (v.2.1+1));(aI (v.1,x47,x36,x46,v.2.2.2.2)))) else none)) else none) else (let x48:Int:=(IntKind.i64.wrap (v.2.1+1));(aI (v.1,x48,x36,v.2.2.2.1,v.2.2.2.2))))) else none) else (let x49:Int:=(IntKind.i64.wrap (v.2.1+1));(aI (v.1,x49,x36,v.2.2.2.1,v.2.2.2.2)))))))) else none)) else none) else ((Nk v.1 v.2.1).bind fun x50=>(bif (x50==119) then (bif (decide (0<=v.2.1)&&decide (v.2.1 < 3)) then ((nth v.2.2.2.2 (Int.toNat v.2.1)).bind fun x51=>(bif (decide (x51≥0)) then (bif (decide (0<=v.2.1)&&decide (v.2.1 < 3)) then ((nth v.2.2.2.2 (Int.toNat v.2.1)).bind fun x52=>(bif (Nat.ble 1 1&&Nat.ble (List.length v.2.2.2.1+List.length ([x52]:Zy)) lim) then (let x53:Zy:=(List.append v.2.2.2.1 ([x52]:Zy));(let x54:Int:=(IntKind.i64.wrap (v.2.1+1));(aI (v.1,x54,v.2.2.1,x53,v.2.2.2.2)))) else none)) else none) else (let x55:Int:=(IntKind.i64.wrap (v.2.1+1));(aI (v.1,x55,v.2.2.1,v.2.2.2.1,v.2.2.2.2))))) else none) else ((Nk v.1 v.2.1).bind fun x56=>(bif (x56==103) then (bif (decide (0<=v.2.1)&&decide (v.2.1 < 3)) then ((nth v.2.2.2.2 (Int.toNat v.2.1)).bind fun x57=>(bif (decide (x57≥0)) then (bif (decide (0<=v.2.1)&&decide (v.2.1 < 3)) then ((nth v.2.2.2.2 (Int.toNat v.2.1)).bind fun x58=>(bif (Nat.ble 1 1&&Nat.ble (List.length v.2.2.2.1+List.length ([x58]:Zy)) lim) then (let x59:Zy:=(List.append v.2.2.2.1 ([x58]:Zy));(let x60:Int:=(IntKind.i64.wrap (v.2.1+1));(aI (v.1,x60,v.2.2.1,x59,v.2.2.2.2)))) else none)) else none) else (let x61:Int:=(IntKind.i64.wrap (v.2.1+1));(aI (v.1,x61,v.2.2.1,v.2.2.2.1,v.2.2.2.2))))) else none) else (let x62:Int:=(IntKind.i64.wrap (v.2.1+1));(aI (v.1,x62,v.2.2.1,v.2.2.2.1,v.2.2.2.2))))))))) else none) else ((Nk v.1 v.2.1).bind fun x63=>(bif (x63==119) then (bif (decide (0<=v.2.1)&&decide (v.2.1 < 3)) then ((nth v.2.2.2.2 (Int.toNat v.2.1)).bind fun x64=>(bif (decide (x64≥0)) then (bif (decide (0<=v.2.1)&&decide (v.2.1 < 3)) then ((nth v.2.2.2.2 (Int.toNat v.2.1)).bind fun x65=>(bif (Nat.ble 1 1&&Nat.ble (List.length v.2.2.2.1+List.length ([x65]:Zy)) lim) then (let x66:Zy:=(List.append v.2.2.2.1 ([x65]:Zy));(let x67:Int:=(IntKind.i64.wrap (v.2.1+1));(aI (v.1,x67,v.2.2.1,x66,v.2.2.2.2)))) else none)) else none) else (let x68:Int:=(IntKind.i64.wrap (v.2.1+1));(aI (v.1,x68,v.2.2.1,v.2.2.2.1,v.2.2.2.2))))) else none) else ((Nk v.1 v.2.1).bind fun x69=>(bif (x69==103) then (bif (decide (0<=v.2.1)&&decide (v.2.1 < 3)) then ((nth v.2.2.2.2 (Int.toNat v.2.1)).bind fun x70=>(bif (decide (x70≥0)) then (bif (decide (0<=v.2.1)&&decide (v.2.1 < 3)) then ((nth v.2.2.2.2 (Int.toNat v.2.1)).bind fun x71=>(bif (Nat.ble 1 1&&Nat.ble (List.length v.2.2.2.1+List.length ([x71]:Zy)) lim) then (let x72:Zy:=(List.append v.2.2.2.1 ([x71]:Zy));(let x73:Int:=(IntKind.i64.wrap (v.2.1+1));(aI (v.1,x73,v.2.2.1,x72,v.2.2.2.2)))) else none)) else none) else (let x74:Int:=(IntKind.i64.wrap (v.2.1+1));(aI (v.1,x74,v.2.2.1,v.2.2.2.1,v.2.2.2.2))))) else none) else (let x75:Int:=(IntKind.i64.wrap (v.2.1+1));(aI (v.1,x75,v.2.2.1,v.2.2.2.1,v.2.2.2.2))))))))))) else (some (v.2.2.1,v.2.2.2.1)))
def jL (N:Nat) (aI:Y64->Option Y24) (v:Y64):Option Y24:=rV aI v
theorem QOW (N:Nat) (s0:St->Option Y24) (v):(ZR (QJA) QMC 6 N Tryz.f31 [Z5,Z5] [true,false] [] 0 Xv) s0 (QDm v)=jL N (fun v=>s0 (QDm v)) v:=by kernel_rfl
def q9 (aL:Y64->Option Y24) (x:aA):Option Y24:=
 ((jo x.1).bind fun x1=>((bV x).bind fun x2=>(aL (x1,(0:Int),([]:List Int),([]:List Int),x2))))
def QAM (N:Nat) (x:aA):Option Y24:=q9 (Gb (jL N) N) x
theorem QXV (N:Nat) (x:aA):rise (QJA) QMC 6 N Tryz.f31 [Z3] [Z5,Z5] [true,false] x=QAM N x:=Eq.trans (b:=q9 (fun v=>Ot (ZR (QJA) QMC 6 N Tryz.f31 [Z5,Z5] [true,false] [] 0 Xv) N (QDm v)) x) (by kernel_rfl) (by rw [funext (Tf QDm (QOW N) N)];rfl)
def l7 (x:aA):Option Y24:=QAM big x
def QJM:U0:=⟨[Z3],[Z5,Z5],[true,false],fun x=>l7 x⟩
theorem QLl:Hw Tryz.prog 31 QJM:=rz (E:=QJA) ⟨aM,(YH QQv (YH QQw Yc)),fun _ _ _=>rfl,mixed,Yt,Y0,Yz⟩ Tryz.func31 fun _ _ h=>(QXV big _).trans h
def QWO:LT:={ live:=[],keep:=[] }
noncomputable def QTo:Bn:={ tab:=tab,fs:=[],inl:=[] }
def yK (x:aA):Option (Int):=
 (bif (x.1==25) then (some x.2.2.1) else (bif (x.1==26) then (bif (x.1==26) then (some x.2.1) else (some (-1:Int))) else (bif (x.1==27) then (some x.2.1) else (some (-1:Int)))))
def oJ (x:aA):Option (Int):=yK x
def QLd:U0:=⟨[Z3],[Z2],[false],fun x=>oJ x⟩
theorem QQ5:Hw Tryz.prog 65 QLd:=rz (E:=QTo) (lt:=QWO) (lv:=6) (N:=big) ⟨aM,Yc,fun _ _ _=>rfl,mixed,Yt,Y0,Yz⟩ Tryz.func65 fun x _ h=>Eq.trans (b:=oJ x) (by kernel_rfl) h
def QMD:LT:={ live:=[(4,[1,3,5,9,10])],keep:=[] }
noncomputable def QJB:Bn:={ tab:=tab,fs:=[(31,QJM),(65,QLd)],inl:=[] }
noncomputable def QDn (v:Y62):St:={ s:=[(1,(.val ⟨Z2,v.1⟩)),(3,(.loc 0 [])),(5,(.loc 1 [])),(9,(.row 2)),(10,(.val ⟨Z2,v.2.1⟩))],l:=[(0,.var Z1 (.val ⟨Z1,v.2.2.1⟩)),(1,.var Z3 (.val ⟨Z3,v.2.2.2.1⟩)),(2,.row Z2 v.2.2.2.2)],k:=[],b:=4096 }
def yA (aI:Y62->Option (Bool)) (v:Y62):Option (Bool):=
 (bif (decide (v.2.1 < (List.length v.2.2.2.2:Int))) then (bif (decide (0<=v.2.1)&&decide (v.2.1 < (List.length v.2.2.2.2:Int))) then ((nth v.2.2.2.2 (Int.toNat v.2.1)).bind fun x3=>((Nk v.2.2.1.2.2.1 v.1).bind fun x4=>(bif (decide (x3≥(List.length x4.2.2.2.1:Int))) then (some false) else (let x5:Int:=(IntKind.i64.wrap (v.2.1+1));(aI (v.1,x5,v.2.2.1,v.2.2.2.1,v.2.2.2.2)))))) else none) else ((oJ v.2.2.2.1).bind fun x6=>(bif (decide (x6 < (List.length v.2.2.1.2.2.1:Int))) then (bif (v.2.2.2.1.1 != 2) then (some true) else (some (decide (v.2.2.2.1.2.2.1 < (List.length v.2.2.1.2.1:Int))))) else (some false))))
def iR (N:Nat) (aI:Y62->Option (Bool)) (v:Y62):Option (Bool):=yA aI v
theorem QOX (N:Nat) (s0:St->Option (Bool)) (v):(ZR (QJB) QMD 6 N Tryz.f30 [.bool] [false] [] 0 Xv) s0 (QDn v)=iR N (fun v=>s0 (QDn v)) v:=by kernel_rfl
def xS (aL:Y62->Option (Bool)) (x:Zx×Int×aA):Option (Bool):=
 ((l7 x.2.2).bind fun x1=>(bif (Nat.ble 1 1&&Nat.ble (List.length ([]:Zy)+List.length x1.1) lim) then (let x2:Zy:=(List.append ([]:Zy) x1.1);(bif (Nat.ble 1 1&&Nat.ble (List.length x2+List.length x1.2) lim) then (aL (x.2.1,(0:Int),x.1,x.2.2,(List.append x2 x1.2))) else none)) else none))
def QDD (N:Nat) (x:Zx×Int×aA):Option (Bool):=xS (Gb (iR N) N) x
theorem QXW (N:Nat) (x:Zx×Int×aA):rise (QJB) QMD 6 N Tryz.f30 [Z1,Z2,Z3] [.bool] [false] x=QDD N x:=Eq.trans (b:=xS (fun v=>Ot (ZR (QJB) QMD 6 N Tryz.f30 [.bool] [false] [] 0 Xv) N (QDn v)) x) (by kernel_rfl) (by rw [funext (Tf QDn (QOX N) N)];rfl)
def QAE (x:Zx×Int×aA):Option (Bool):=QDD big x
def QPg:U0:=⟨[Z1,Z2,Z3],[.bool],[false],fun x=>QAE x⟩
theorem QVN:Hw Tryz.prog 30 QPg:=rz (E:=QJB) ⟨aM,(YH QLl (YH QQ5 Yc)),fun _ _ _=>rfl,mixed,Yt,Y0,Yz⟩ Tryz.func30 fun _ _ h=>(QXW big _).trans h
def QMF:LT:={ live:=[(2,[1,2,3,7])],keep:=[] }
noncomputable def QJD:Bn:={ tab:=tab,fs:=[],inl:=[] }
noncomputable def QDp (v:Zy×Zy×Int×Zw):St:={ s:=[(1,(.val ⟨Z5,v.1⟩)),(2,(.val ⟨Z5,v.2.1⟩)),(3,(.loc 0 [])),(7,(.val ⟨Z2,v.2.2.1⟩))],l:=[(0,.var Z0 (.val ⟨Z0,v.2.2.2⟩))],k:=[],b:=4096 }
def wC (aI:Zy×Zy×Int×Zw->Option (Bool)) (v:Zy×Zy×Int×Zw):Option (Bool):=
 (bif (decide (v.2.2.1 < (List.length v.1:Int))) then ((Nk v.1 v.2.2.1).bind fun x1=>(bif (decide (x1≥(List.length v.2.2.2.2.2.2.1:Int))) then (some false) else ((Nk v.1 v.2.2.1).bind fun x2=>((Nk v.2.2.2.2.2.2.1 x2).bind fun x3=>((Nk v.2.1 v.2.2.1).bind fun x4=>(bif (x3.2.1 != x4) then (some false) else (let x5:Int:=(IntKind.i64.wrap (v.2.2.1+1));(aI (v.1,v.2.1,x5,v.2.2.2))))))))) else (some true))
def jJ (N:Nat) (aI:Zy×Zy×Int×Zw->Option (Bool)) (v:Zy×Zy×Int×Zw):Option (Bool):=wC aI v
theorem QOZ (N:Nat) (s0:St->Option (Bool)) (v):(ZR (QJD) QMF 6 N Tryz.f32 [.bool] [false] [] 0 Xv) s0 (QDp v)=jJ N (fun v=>s0 (QDp v)) v:=by kernel_rfl
def vG (aL:Zy×Zy×Int×Zw->Option (Bool)) (x:Zw×Zy×Zy):Option (Bool):=
 (aL (x.2.1,x.2.2,(0:Int),x.1))
def QBt (N:Nat) (x:Zw×Zy×Zy):Option (Bool):=vG (Gb (jJ N) N) x
theorem QXY (N:Nat) (x:Zw×Zy×Zy):rise (QJD) QMF 6 N Tryz.f32 [Z0,Z5,Z5] [.bool] [false] x=QBt N x:=Eq.trans (b:=vG (fun v=>Ot (ZR (QJD) QMF 6 N Tryz.f32 [.bool] [false] [] 0 Xv) N (QDp v)) x) (by kernel_rfl) (by rw [funext (Tf QDp (QOZ N) N)];rfl)
def uX (x:Zw×Zy×Zy):Option (Bool):=QBt big x
def QPk:U0:=⟨[Z0,Z5,Z5],[.bool],[false],fun x=>uX x⟩
theorem QVR:Hw Tryz.prog 32 QPk:=rz (E:=QJD) ⟨aM,Yc,fun _ _ _=>rfl,mixed,Yt,Y0,Yz⟩ Tryz.func32 fun _ _ h=>(QXY big _).trans h
def QMG:LT:={ live:=[(3,[0,1,5,6])],keep:=[] }
noncomputable def QJE:Bn:={ tab:=tab,fs:=[],inl:=[] }
noncomputable def QDq (v:aB×Int×Int×Int):St:={ s:=[(0,(.val ⟨Z6,v.1⟩)),(1,(.val ⟨Z2,v.2.1⟩)),(5,(.val ⟨yT,v.2.2.1⟩)),(6,(.val ⟨Z2,v.2.2.2⟩))],l:=[],k:=[],b:=4096 }
def mX (aI:aB×Int×Int×Int->Option (Int)) (v:aB×Int×Int×Int):Option (Int):=
 (bif (decide (v.2.2.2 < (List.length v.1:Int))) then ((Nk v.1 v.2.2.2).bind fun x1=>(bif (decide (x1.1<=v.2.1)) then ((Nk v.1 v.2.2.2).bind fun x2=>(let x3:Int:=(IntKind.i64.wrap (v.2.2.2+1));(aI (v.1,v.2.1,x2.2.1,x3)))) else (let x4:Int:=(IntKind.i64.wrap (v.2.2.2+1));(aI (v.1,v.2.1,v.2.2.1,x4))))) else (some v.2.2.1))
def vo (N:Nat) (aI:aB×Int×Int×Int->Option (Int)) (v:aB×Int×Int×Int):Option (Int):=mX aI v
theorem QOa (N:Nat) (s0:St->Option (Int)) (v):(ZR (QJE) QMG 6 N Tryz.f33 [yT] [false] [] 0 Xv) s0 (QDq v)=vo N (fun v=>s0 (QDq v)) v:=by kernel_rfl
def QCC (aL:aB×Int×Int×Int->Option (Int)) (x:aB×Int):Option (Int):=
 (aL (x.1,x.2,(0:Int),(0:Int)))
def QC3 (N:Nat) (x:aB×Int):Option (Int):=QCC (Gb (vo N) N) x
theorem QXZ (N:Nat) (x:aB×Int):rise (QJE) QMG 6 N Tryz.f33 [Z6,Z2] [yT] [false] x=QC3 N x:=Eq.trans (b:=QCC (fun v=>Ot (ZR (QJE) QMG 6 N Tryz.f33 [yT] [false] [] 0 Xv) N (QDq v)) x) (by kernel_rfl) (by rw [funext (Tf QDq (QOa N) N)];rfl)
def gZ (x:aB×Int):Option (Int):=QC3 big x
def QPl:U0:=⟨[Z6,Z2],[yT],[false],fun x=>gZ x⟩
theorem QVS:Hw Tryz.prog 33 QPl:=rz (E:=QJE) ⟨aM,Yc,fun _ _ _=>rfl,mixed,Yt,Y0,Yz⟩ Tryz.func33 fun _ _ h=>(QXZ big _).trans h
def QWR:LT:={ live:=[],keep:=[] }
noncomputable def QTr:Bn:={ tab:=tab,fs:=[(116,Gz9)],inl:=[] }
def wX (x:Int):Option (Int):=
 ((vW (x,(8:Int))).bind fun x1=>(some x1))
def qF (x:Int):Option (Int):=wX x
def QPm:U0:=⟨[Z2],[Z2],[false],fun x=>qF x⟩
theorem QVT:Hw Tryz.prog 69 QPm:=rz (E:=QTr) (lt:=QWR) (lv:=6) (N:=big) ⟨aM,(YH Lz9 Yc),fun _ _ _=>rfl,mixed,Yt,Y0,Yz⟩ Tryz.func69 fun x _ h=>Eq.trans (b:=qF x) (by kernel_rfl) h
def QMH:LT:={ live:=[(4,[1,5,7,8])],keep:=[] }
noncomputable def QJF:Bn:={ tab:=tab,fs:=[(68,QQd),(69,QPm)],inl:=[] }
noncomputable def QDr (v:Y71):St:={ s:=[(1,(.val ⟨Z5,v.1⟩)),(5,(.row 0)),(7,(.val ⟨Z2,v.2.1⟩)),(8,(.val ⟨Z2,v.2.2.1⟩))],l:=[(0,.row Z2 v.2.2.2)],k:=[],b:=4096 }
def wG (aI:Y71->Option (Int)) (v:Y71):Option (Int):=
 (bif (decide (v.2.2.1 < (List.length v.1:Int))) then ((Nk v.1 v.2.2.1).bind fun x2=>(bif (decide (0<=x2)&&decide (x2 < (List.length v.2.2.2:Int))) then ((nth v.2.2.2 (Int.toNat x2)).bind fun x3=>((qF x3).bind fun x4=>(let x5:Int:=(IntKind.i64.wrap (v.2.1+x4));(let x6:Int:=(IntKind.i64.wrap (v.2.2.1+1));(aI (v.1,x5,x6,v.2.2.2)))))) else none)) else (some v.2.1))
def jT (N:Nat) (aI:Y71->Option (Int)) (v:Y71):Option (Int):=wG aI v
theorem QOb (N:Nat) (s0:St->Option (Int)) (v):(ZR (QJF) QMH 6 N Tryz.f34 [Z2] [false] [] 0 Xv) s0 (QDr v)=jT N (fun v=>s0 (QDr v)) v:=by kernel_rfl
def vR (aL:Y71->Option (Int)) (x:Zx×Zy):Option (Int):=
 ((uf x.1.1).bind fun x1=>(aL (x.2,(0:Int),(0:Int),x1.1)))
def QC6 (N:Nat) (x:Zx×Zy):Option (Int):=vR (Gb (jT N) N) x
theorem QXa (N:Nat) (x:Zx×Zy):rise (QJF) QMH 6 N Tryz.f34 [Z1,Z5] [Z2] [false] x=QC6 N x:=Eq.trans (b:=vR (fun v=>Ot (ZR (QJF) QMH 6 N Tryz.f34 [Z2] [false] [] 0 Xv) N (QDr v)) x) (by kernel_rfl) (by rw [funext (Tf QDr (QOb N) N)];rfl)
def zM (x:Zx×Zy):Option (Int):=QC6 big x
def QPn:U0:=⟨[Z1,Z5],[Z2],[false],fun x=>zM x⟩
theorem QVU:Hw Tryz.prog 34 QPn:=rz (E:=QJF) ⟨aM,(YH QUo (YH QVT Yc)),fun _ _ _=>rfl,mixed,Yt,Y0,Yz⟩ Tryz.func34 fun _ _ h=>(QXa big _).trans h
def QWS:LT:={ live:=[],keep:=[] }
noncomputable def QTs:Bn:={ tab:=tab,fs:=[],inl:=[] }
def QAR (x:Zx×Int×Int):Option (Int):=
 (bif (decide (x.2.2 < 0)) then (some (-1:Int)) else ((Nk x.1.2.2.1 x.2.1).bind fun x1=>(bif (decide (x.2.2≥(List.length x1.2.2.2.1:Int))) then (some (-1:Int)) else ((Nk x.1.2.2.1 x.2.1).bind fun x2=>((Nk x2.2.2.2.1 x.2.2).bind fun x3=>(some x3.2.1))))))
def xC (x:Zx×Int×Int):Option (Int):=QAR x
def QPo:U0:=⟨[Z1,Z2,Z2],[Z2],[false],fun x=>xC x⟩
theorem QVV:Hw Tryz.prog 59 QPo:=rz (E:=QTs) (lt:=QWS) (lv:=6) (N:=big) ⟨aM,Yc,fun _ _ _=>rfl,mixed,Yt,Y0,Yz⟩ Tryz.func59 fun x _ h=>Eq.trans (b:=xC x) (by kernel_rfl) h
def QMI:LT:={ live:=[(7,[3,8,9,10])],keep:=[] }
noncomputable def QJG:Bn:={ tab:=tab,fs:=[(59,QPo),(65,QLd)],inl:=[] }
noncomputable def QDs (v:Int×Int×Zx×Zy):St:={ s:=[(3,(.loc 0 [])),(8,(.row 1)),(9,(.val ⟨Z2,v.1⟩)),(10,(.val ⟨Z2,v.2.1⟩))],l:=[(0,.var Z1 (.val ⟨Z1,v.2.2.1⟩)),(1,.row Z2 v.2.2.2)],k:=[],b:=4096 }
def uK (aI:Int×Int×Zx×Zy->Option lZ) (v:Int×Int×Zx×Zy):Option lZ:=
 ((Nk v.2.2.1.2.2.1 v.1).bind fun x3=>(bif (decide (v.2.1 < x3.2.1)) then ((Nk v.2.2.1.2.2.1 v.1).bind fun x4=>((Nk x4.2.2.2.1 v.2.1).bind fun x5=>(bif (Nat.ble 1 1&&Nat.ble (List.length v.2.2.2+List.length ([x5.2.1]:Zy)) lim) then (let x6:Zy:=(List.append v.2.2.2 ([x5.2.1]:Zy));(let x7:Int:=(IntKind.i64.wrap (v.2.1+1));(aI (v.1,x7,v.2.2.1,x6)))) else none))) else (some (v.2.2.2,(-1:Int)))))
def gQ (N:Nat) (aI:Int×Int×Zx×Zy->Option lZ) (v:Int×Int×Zx×Zy):Option lZ:=uK aI v
theorem QOc (N:Nat) (s0:St->Option lZ) (v):(ZR (QJG) QMI 6 N Tryz.f35 [Z5,Z2] [true,false] [] 0 Xv) s0 (QDs v)=gQ N (fun v=>s0 (QDs v)) v:=by kernel_rfl
def sj (aL:Int×Int×Zx×Zy->Option lZ) (x:Zx×Int×aA):Option lZ:=
 (bif (x.2.2.1==24) then ((xC (x.1,x.2.1,x.2.2.2.1)).bind fun x1=>(some (([]:List Int),x1))) else ((oJ x.2.2).bind fun x2=>(bif (decide (x2≥0)) then (aL (x2,(0:Int),x.1,([]:List Int))) else (some (([]:List Int),(-1:Int))))))
def QAy (N:Nat) (x:Zx×Int×aA):Option lZ:=sj (Gb (gQ N) N) x
theorem QXb (N:Nat) (x:Zx×Int×aA):rise (QJG) QMI 6 N Tryz.f35 [Z1,Z2,Z3] [Z5,Z2] [true,false] x=QAy N x:=Eq.trans (b:=sj (fun v=>Ot (ZR (QJG) QMI 6 N Tryz.f35 [Z5,Z2] [true,false] [] 0 Xv) N (QDs v)) x) (by kernel_rfl) (by rw [funext (Tf QDs (QOc N) N)];rfl)
def xg (x:Zx×Int×aA):Option lZ:=QAy big x
def QPp:U0:=⟨[Z1,Z2,Z3],[Z5,Z2],[true,false],fun x=>xg x⟩
theorem QVW:Hw Tryz.prog 35 QPp:=rz (E:=QJG) ⟨aM,(YH QVV (YH QQ5 Yc)),fun _ _ _=>rfl,mixed,Yt,Y0,Yz⟩ Tryz.func35 fun _ _ h=>(QXb big _).trans h
def QMK:LT:={ live:=[(4,[0,1,5])],keep:=[] }
noncomputable def QJH:Bn:={ tab:=tab,fs:=[],inl:=[] }
noncomputable def QDt (v:Zy×Zy×Int):St:={ s:=[(0,(.val ⟨Z5,v.1⟩)),(1,(.val ⟨Z5,v.2.1⟩)),(5,(.val ⟨Z2,v.2.2⟩))],l:=[],k:=[],b:=4096 }
def iJ (aI:Zy×Zy×Int->Option (Bool)) (v:Zy×Zy×Int):Option (Bool):=
 (bif (decide (v.2.2 < (List.length v.1:Int))) then ((Nk v.1 v.2.2).bind fun x1=>((Nk v.2.1 v.2.2).bind fun x2=>(bif (x1 != x2) then (some false) else (let x3:Int:=(IntKind.i64.wrap (v.2.2+1));(aI (v.1,v.2.1,x3)))))) else (some true))
def iE (N:Nat) (aI:Zy×Zy×Int->Option (Bool)) (v:Zy×Zy×Int):Option (Bool):=iJ aI v
theorem QOd (N:Nat) (s0:St->Option (Bool)) (v):(ZR (QJH) QMK 6 N Tryz.f25 [.bool] [false] [] 0 Xv) s0 (QDt v)=iE N (fun v=>s0 (QDt v)) v:=by kernel_rfl
def oq (aL:Zy×Zy×Int->Option (Bool)) (x:Zy×Zy):Option (Bool):=
 (bif ((List.length x.1:Int) != (List.length x.2:Int)) then (some false) else (aL (x.1,x.2,(0:Int))))
def zx (N:Nat) (x:Zy×Zy):Option (Bool):=oq (Gb (iE N) N) x
theorem QXc (N:Nat) (x:Zy×Zy):rise (QJH) QMK 6 N Tryz.f25 [Z5,Z5] [.bool] [false] x=zx N x:=Eq.trans (b:=oq (fun v=>Ot (ZR (QJH) QMK 6 N Tryz.f25 [.bool] [false] [] 0 Xv) N (QDt v)) x) (by kernel_rfl) (by rw [funext (Tf QDt (QOd N) N)];rfl)
def uD (x:Zy×Zy):Option (Bool):=zx big x
def QPq:U0:=⟨[Z5,Z5],[.bool],[false],fun x=>uD x⟩
theorem QVX:Hw Tryz.prog 25 QPq:=rz (E:=QJH) ⟨aM,Yc,fun _ _ _=>rfl,mixed,Yt,Y0,Yz⟩ Tryz.func25 fun _ _ h=>(QXc big _).trans h
def QWT:LT:={ live:=[],keep:=[] }
noncomputable def QTt:Bn:={ tab:=tab,fs:=[],inl:=[] }
def yI (x:aF×Int):Option (Zy):=
 ((Nk x.1 x.2).bind fun x1=>(bif (x1.1==34) then (bif (x1.1==34) then (some ([]:List Int)) else (bif (x1.1==22) then (some ([x1.2.1]:Zy)) else (bif (x1.1==23) then (let x2:Int:=(IntKind.i64.wrap (x.2+1));(bif (x1.2.2.1==x2) then (let x3:Int:=(IntKind.i64.wrap (x.2+1));(some ([x3]:Zy))) else (let x4:Int:=(IntKind.i64.wrap (x.2+1));(let x5:Int:=(if x1.2.2.1 < x4 then x1.2.2.1 else x4);(let x6:Int:=(IntKind.i64.wrap (x.2+1));(let x7:Int:=(if x1.2.2.1 > x6 then x1.2.2.1 else x6);(some ([x5,x7]:Zy)))))))) else (let x8:Int:=(IntKind.i64.wrap (x.2+1));(some ([x8]:Zy)))))) else (bif (x1.1==28) then (bif (x1.1==28) then (some ([]:List Int)) else (bif (x1.1==22) then (some ([x1.2.1]:Zy)) else (bif (x1.1==23) then (let x9:Int:=(IntKind.i64.wrap (x.2+1));(bif (x1.2.2.1==x9) then (let gH:Int:=(IntKind.i64.wrap (x.2+1));(some ([gH]:Zy))) else (let nV:Int:=(IntKind.i64.wrap (x.2+1));(let pU:Int:=(if x1.2.2.1 < nV then x1.2.2.1 else nV);(let rE:Int:=(IntKind.i64.wrap (x.2+1));(let kM:Int:=(if x1.2.2.1 > rE then x1.2.2.1 else rE);(let jf:Zy:=([pU,kM]:Zy);(some jf)))))))) else (let vU:Int:=(IntKind.i64.wrap (x.2+1));(some ([vU]:Zy)))))) else (bif (x1.1==30) then (some ([]:List Int)) else (bif (x1.1==22) then (some ([x1.2.1]:Zy)) else (bif (x1.1==23) then (let yQ:Int:=(IntKind.i64.wrap (x.2+1));(bif (x1.2.2.1==yQ) then (let x18:Int:=(IntKind.i64.wrap (x.2+1));(some ([x18]:Zy))) else (let zh:Int:=(IntKind.i64.wrap (x.2+1));(let x20:Int:=(if x1.2.2.1 < zh then x1.2.2.1 else zh);(let x21:Int:=(IntKind.i64.wrap (x.2+1));(let x22:Int:=(if x1.2.2.1 > x21 then x1.2.2.1 else x21);(let x23:Zy:=([x20,x22]:Zy);(some x23)))))))) else (let x24:Int:=(IntKind.i64.wrap (x.2+1));(some ([x24]:Zy)))))))))
def kQ (x:aF×Int):Option (Zy):=yI x
def QPr:U0:=⟨[ru,Z2],[Z5],[true],fun x=>kQ x⟩
theorem QVY:Hw Tryz.prog 36 QPr:=rz (E:=QTt) (lt:=QWT) (lv:=6) (N:=big) ⟨aM,Yc,fun _ _ _=>rfl,mixed,Yt,Y0,Yz⟩ Tryz.func36 fun x _ h=>Eq.trans (b:=kQ x) (by kernel_rfl) h
def QML:LT:={ live:=[(4,[4,5,6])],keep:=[] }
noncomputable def QJI:Bn:={ tab:=tab,fs:=[(31,QJM)],inl:=[] }
noncomputable def QDu (v:Y76):St:={ s:=[(4,(.val ⟨Z5,v.1⟩)),(5,(.val ⟨yT,v.2.1⟩)),(6,(.val ⟨Z2,v.2.2⟩))],l:=[],k:=[],b:=4096 }
def jc (aI:Y76->Option (Int)) (v:Y76):Option (Int):=
 (bif (decide (v.2.2 < (List.length v.1:Int))) then ((Nk v.1 v.2.2).bind fun x2=>(bif (decide (x2 < 0)) then none else (let x3:Int:=(IntKind.u64.wrap ((1:Int) * 2 ^ (min (Int.toNat x2) 64)));(let x4:Int:=(IntKind.i64.wrap (v.2.2+1));(aI (v.1,(bits .or .u64 v.2.1 x3),x4)))))) else (some v.2.1))
def nM (N:Nat) (aI:Y76->Option (Int)) (v:Y76):Option (Int):=jc aI v
theorem QOe (N:Nat) (s0:St->Option (Int)) (v):(ZR (QJI) QML 6 N Tryz.f37 [yT] [false] [] 0 Xv) s0 (QDu v)=nM N (fun v=>s0 (QDu v)) v:=by kernel_rfl
def rA (aL:Y76->Option (Int)) (x:aA):Option (Int):=
 ((l7 x).bind fun x1=>(aL (x1.2,(0:Int),(0:Int))))
def QAN (N:Nat) (x:aA):Option (Int):=rA (Gb (nM N) N) x
theorem QXd (N:Nat) (x:aA):rise (QJI) QML 6 N Tryz.f37 [Z3] [yT] [false] x=QAN N x:=Eq.trans (b:=rA (fun v=>Ot (ZR (QJI) QML 6 N Tryz.f37 [yT] [false] [] 0 Xv) N (QDu v)) x) (by kernel_rfl) (by rw [funext (Tf QDu (QOe N) N)];rfl)
def jE (x:aA):Option (Int):=QAN big x
def QPs:U0:=⟨[Z3],[yT],[false],fun x=>jE x⟩
theorem QVZ:Hw Tryz.prog 37 QPs:=rz (E:=QJI) ⟨aM,(YH QLl Yc),fun _ _ _=>rfl,mixed,Yt,Y0,Yz⟩ Tryz.func37 fun _ _ h=>(QXd big _).trans h
def iy:LT:={ live:=[(9,[1,2,3,7,8,9,10,11]),(19,[1,2,3,7,8,9,10,11,12,16,18])],keep:=[] }
noncomputable def fK:Bn:={ tab:=tab,fs:=[(15,QPj),(17,QPd),(18,Gz1),(23,QLc),(25,QPq),(27,QUB),(28,QPe),(29,QPf),(30,QPg),(31,QJM),(32,QPk),(33,QPl),(34,QPn),(35,QPp),(36,QPr),(37,QPs)],inl:=[] }
noncomputable def jq (v:Y27):St:={ s:=[(1,(.val ⟨Z2,v.1⟩)),(2,(.val ⟨Z5,v.2.1⟩)),(3,(.loc 0 [])),(7,(.loc 1 [])),(8,(.row 2)),(9,(.val ⟨Z2,v.2.2.1⟩)),(10,(.val ⟨yT,v.2.2.2.1⟩)),(11,(.val ⟨Z2,v.2.2.2.2.1⟩)),(12,(.loc 3 [])),(16,(.row 4)),(18,(.val ⟨Z2,v.2.2.2.2.2.1⟩))],l:=[(0,.var Z1 (.val ⟨Z1,v.2.2.2.2.2.2.1⟩)),(1,.var Z0 (.val ⟨Z0,v.2.2.2.2.2.2.2.1⟩)),(2,.row Z2 v.2.2.2.2.2.2.2.2.1),(3,.var Z3 (.val ⟨Z3,v.2.2.2.2.2.2.2.2.2.1⟩)),(4,.row Z2 v.2.2.2.2.2.2.2.2.2.2)],k:=[],b:=4096 }
noncomputable def dR (v:Y35):St:={ s:=[(1,(.val ⟨Z2,v.1⟩)),(2,(.val ⟨Z5,v.2.1⟩)),(3,(.loc 0 [])),(7,(.loc 1 [])),(8,(.row 2)),(9,(.val ⟨Z2,v.2.2.1⟩)),(10,(.val ⟨yT,v.2.2.2.1⟩)),(11,(.val ⟨Z2,v.2.2.2.2.1⟩))],l:=[(0,.var Z1 (.val ⟨Z1,v.2.2.2.2.2.1⟩)),(1,.var Z0 (.val ⟨Z0,v.2.2.2.2.2.2.1⟩)),(2,.row Z2 v.2.2.2.2.2.2.2)],k:=[],b:=4096 }
def pF (aI:Y35->Option (Bool)) (aJ:Y27->Option (Bool)) (v:Y27):Option (Bool):=
 (bif (decide (v.2.2.2.2.2.1 < (List.length v.2.2.2.2.2.2.2.2.2.2:Int))) then (bif (decide (0<=v.2.2.2.2.2.1)&&decide (v.2.2.2.2.2.1 < (List.length v.2.2.2.2.2.2.2.2.2.2:Int))) then ((nth v.2.2.2.2.2.2.2.2.2.2 (Int.toNat v.2.2.2.2.2.1)).bind fun zh=>(bif (decide (zh < 0)) then none else (let x20:Int:=(v.2.2.2.1.fdiv (2 ^ (min (Int.toNat zh) 64)));(bif ((x20.tmod (2:Int))==0) then (some false) else ((gZ (v.2.2.2.2.2.2.2.1.2.2.2.2.2.2.1,v.2.2.1)).bind fun x21=>(bif (decide (0<=v.2.2.2.2.2.1)&&decide (v.2.2.2.2.2.1 < (List.length v.2.2.2.2.2.2.2.2.2.2:Int))) then ((nth v.2.2.2.2.2.2.2.2.2.2 (Int.toNat v.2.2.2.2.2.1)).bind fun x22=>(bif (decide (x22 < 0)) then none else (let x23:Int:=(x21.fdiv (2 ^ (min (Int.toNat x22) 64)));(bif ((x23.tmod (2:Int))==0) then (some false) else (let x24:Int:=(IntKind.i64.wrap (v.2.2.2.2.2.1+1));(aJ (v.1,v.2.1,v.2.2.1,v.2.2.2.1,v.2.2.2.2.1,x24,v.2.2.2.2.2.2.1,v.2.2.2.2.2.2.2.1,v.2.2.2.2.2.2.2.2.1,v.2.2.2.2.2.2.2.2.2.1,v.2.2.2.2.2.2.2.2.2.2))))))) else none)))))) else none) else ((gZ (v.2.2.2.2.2.2.2.1.2.2.2.2.2.2.1,v.2.2.1)).bind fun x25=>(let x26:Int:=(bits .andNot .u64 x25 v.2.2.2.1);(bif (x26 != 0) then (some false) else ((gZ (v.2.2.2.2.2.2.2.1.2.2.2.2.2.1,v.2.2.1)).bind fun x27=>((zM (v.2.2.2.2.2.2.1,v.2.2.2.2.2.2.2.2.1)).bind fun x28=>(bif (x27 != (IntKind.u64.wrap x28)) then (some false) else ((xg (v.2.2.2.2.2.2.1,v.1,v.2.2.2.2.2.2.2.2.2.1)).bind fun x29=>(let x30:Int:=(IntKind.i64.wrap ((List.length v.2.2.2.2.2.2.2.2.1:Int) - (List.length x29.1:Int)));(bif (decide (x30 < 0)) then (some false) else (bif (decide (0<=x30)&&decide (x30<=((List.length v.2.2.2.2.2.2.2.2.1):Int))) then ((uD ((List.drop (Int.toNat x30) (List.take (List.length v.2.2.2.2.2.2.2.2.1) v.2.2.2.2.2.2.2.2.1)),x29.1)).bind fun x31=>(bif (!x31) then (some false) else (bif (decide (0<=x30)&&decide (x30<=((List.length v.2.2.2.2.2.2.2.2.1):Int))) then (bif (Nat.ble 1 1&&Nat.ble (List.length ([]:Zy)+List.length (List.drop 0 (List.take (Int.toNat x30) v.2.2.2.2.2.2.2.2.1))) lim) then (let x32:Zy:=(List.append ([]:Zy) (List.drop 0 (List.take (Int.toNat x30) v.2.2.2.2.2.2.2.2.1)));(bif (decide (x29.2≥0)) then (bif (Nat.ble 1 1&&Nat.ble (List.length x32+List.length ([x29.2]:Zy)) lim) then (let x33:Zy:=(List.append x32 ([x29.2]:Zy));((kQ (v.2.2.2.2.2.2.2.1.2.2.2.2.1,v.2.2.1)).bind fun x34=>(bif ((List.length x34:Int)==0) then ((aW ()).bind fun x35=>(some x35)) else (bif (v.2.2.2.2.1==(List.length v.2.1:Int)) then ((aW ()).bind fun x36=>(some x36)) else ((Nk v.2.1 v.2.2.2.2.1).bind fun x37=>(bif (decide (x37 < 0)) then ((aW ()).bind fun x38=>(some x38)) else ((jE v.2.2.2.2.2.2.2.2.2.1).bind fun x39=>(let x40:Int:=(bits .or .u64 v.2.2.2.1 x39);((Nk v.2.1 v.2.2.2.2.1).bind fun x41=>(bif ((List.length x34:Int)==0) then none else (let x42:Int:=(x41.tmod (List.length x34:Int));(bif (decide (0<=x42)&&decide (x42 < (List.length x34:Int))) then ((nth x34 (Int.toNat x42)).bind fun x43=>(let x44:Int:=(IntKind.i64.wrap (v.2.2.2.2.1+1));(aI (v.1,v.2.1,x43,x40,x44,v.2.2.2.2.2.2.1,v.2.2.2.2.2.2.2.1,x33)))) else none)))))))))))) else none) else ((kQ (v.2.2.2.2.2.2.2.1.2.2.2.2.1,v.2.2.1)).bind fun x45=>(bif ((List.length x45:Int)==0) then ((aW ()).bind fun x46=>(some x46)) else (bif (v.2.2.2.2.1==(List.length v.2.1:Int)) then ((aW ()).bind fun x47=>(some x47)) else ((Nk v.2.1 v.2.2.2.2.1).bind fun x48=>(bif (decide (x48 < 0)) then ((aW ()).bind fun x49=>(some x49)) else ((jE v.2.2.2.2.2.2.2.2.2.1).bind fun x50=>(let x51:Int:=(bits .or .u64 v.2.2.2.1 x50);((Nk v.2.1 v.2.2.2.2.1).bind fun x52=>(bif ((List.length x45:Int)==0) then none else (let x53:Int:=(x52.tmod (List.length x45:Int));(bif (decide (0<=x53)&&decide (x53 < (List.length x45:Int))) then ((nth x45 (Int.toNat x53)).bind fun x54=>(let x55:Int:=(IntKind.i64.wrap (v.2.2.2.2.1+1));(aI (v.1,v.2.1,x54,x51,x55,v.2.2.2.2.2.2.1,v.2.2.2.2.2.2.2.1,x32)))) else none))))))))))))) else none) else none))) else none)))))))))))
def dV (N:Nat) (aI:Y35->Option (Bool)) (aJ:Y27->Option (Bool)) (v:Y27):Option (Bool):=pF aI aJ v
theorem QB6 (N:Nat) (s0:St->Option (Bool)) (s1:St->Option (Bool)) (v):(ZR (fK) iy 6 N Tryz.f5 [.bool] [false] [] 1 (Yx s0 Xv)) s1 (jq v)=dV N (fun v=>s0 (dR v)) (fun v=>s1 (jq v)) v:=by kernel_rfl
def jw (bH:Y27->Option (Bool)) (aI:Y35->Option (Bool)) (v:Y35):Option (Bool):=
 (bif (decide (v.2.2.2.2.1<=(List.length v.2.1:Int))) then ((Nk v.2.2.2.2.2.2.1.2.2.2.2.1 v.2.2.1).bind fun rE=>((QAE (v.2.2.2.2.2.1,v.1,rE)).bind fun kM=>(bif (!kM) then (some false) else ((uT (v.2.2.2.2.2.1,v.1,v.2.2.1)).bind fun jf=>((l7 rE).bind fun vU=>(bif (jf.2.2 != 0) then (some false) else (bif ((List.length jf.1:Int) != (List.length vU.1:Int)) then (some false) else (bif ((List.length jf.2.1:Int) != (List.length vU.2:Int)) then (some false) else ((uX (v.2.2.2.2.2.2.1,vU.1,jf.1)).bind fun yQ=>(bif (!yQ) then (some false) else ((uX (v.2.2.2.2.2.2.1,vU.2,jf.2.1)).bind fun x18=>(bif (!x18) then (some false) else (bH (v.1,v.2.1,v.2.2.1,v.2.2.2.1,v.2.2.2.2.1,(0:Int),v.2.2.2.2.2.1,v.2.2.2.2.2.2.1,v.2.2.2.2.2.2.2,rE,vU.1)))))))))))))) else ((aW ()).bind fun x56=>(some x56)))
def dU (N:Nat) (aI:Y35->Option (Bool)) (v:Y35):Option (Bool):=jw (Gb (dV N aI) N) aI v
theorem QB5 (N:Nat) (s0:St->Option (Bool)) (v):(ZR (fK) iy 6 N Tryz.f5 [.bool] [false] [] 0 Xv) s0 (dR v)=dU N (fun v=>s0 (dR v)) v:=Eq.trans (b:=jw (fun v=>Ot (ZR (fK) iy 6 N Tryz.f5 [.bool] [false] [] 1 (Yx s0 Xv)) N (jq v)) (fun v=>s0 (dR v)) v) (by kernel_rfl) (by rw [funext (Tf jq (QB6 N s0) N)];rfl)
def nR (aL:Y35->Option (Bool)) (x:Zx×Int×Zy):Option (Bool):=
 ((zL x.1).bind fun x1=>(bif x1 then ((aW ()).bind fun x2=>(some x2)) else ((uj x.1).bind fun x3=>(bif (x3 != 0) then ((aW ()).bind fun x4=>(some x4)) else (bif (decide (x.2.1 < 0)) then ((aW ()).bind fun x5=>(some x5)) else (bif (decide (x.2.1≥(List.length x.1.2.2.1:Int))) then ((aW ()).bind fun x6=>(some x6)) else (bif (decide ((List.length x.2.2:Int) > 200)) then ((aW ()).bind fun x7=>(some x7)) else ((pX x.1).bind fun x8=>(bif (x8 != 0) then ((aW ()).bind fun x9=>(some x9)) else ((Nk x.1.2.2.1 x.2.1).bind fun gH=>((zJ gH.2.2.2.2.1).bind fun nV=>(bif (nV != 0) then (some false) else ((ug gH.2.1).bind fun pU=>(aL (x.2.1,x.2.2,(0:Int),pU,(0:Int),x.1,gH,([]:List Int))))))))))))))))
def yh (N:Nat) (x:Zx×Int×Zy):Option (Bool):=nR (Gb (dU N) N) x
theorem QCo (N:Nat) (x:Zx×Int×Zy):rise (fK) iy 6 N Tryz.f5 [Z1,Z2,Z5] [.bool] [false] x=yh N x:=Eq.trans (b:=nR (fun v=>Ot (ZR (fK) iy 6 N Tryz.f5 [.bool] [false] [] 0 Xv) N (dR v)) x) (by kernel_rfl) (by rw [funext (Tf dR (QB5 N) N)];rfl)
def yU (x:Zx×Int×Zy):Option (Bool):=yh big x
def mq:U0:=⟨[Z1,Z2,Z5],[.bool],[false],fun x=>yU x⟩
theorem QCW:Hw Tryz.prog 5 mq:=rz (E:=fK) ⟨aM,(YH QVQ (YH QVK (YH Lz1 (YH QQ4 (YH QVX (YH QYq (YH QVL (YH QVM (YH QVN (YH QLl (YH QVR (YH QVS (YH QVU (YH QVW (YH QVY (YH QVZ Yc)))))))))))))))),fun _ _ _=>rfl,mixed,Yt,Y0,Yz⟩ Tryz.func5 fun _ _ h=>(QCo big _).trans h
end Go.Proofs.YtbgmjjplddddnaaGreatDoor
